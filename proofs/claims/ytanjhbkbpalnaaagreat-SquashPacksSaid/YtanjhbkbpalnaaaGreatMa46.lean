/-
 What the law of the last of these texts stands on, part 46.
-/
import Derived.Test.YtanjhbkbpalnaaaGreatMa43
set_option maxRecDepth 100000
set_option maxHeartbeats 8000000
open Go.Proofs.Tryz
namespace Go.Proofs.YtanjhbkbpalnaaaGreat
set_option linter.unusedSimpArgs false
set_option linter.unusedVariables false
open Go.ChangeShapes Go.WideShapes Go.ChangeAt Go.RowKit Go.Joins Go.Deep Go.Shelf
theorem zhalf (p : Nat) (h : (p : Int) + 1 < 9223372036854775808) : wrap64 ((wrap64 ((p : Int) + 1 - (2 - ((p : Int) + 1) % 2))).tdiv 2) = ((p / 2 : Nat) : Int) := by
 have e1 : wrap64 ((p : Int) + 1 - (2 - ((p : Int) + 1) % 2)) = (p : Int) + 1 - (2 - ((p : Int) + 1) % 2) := by
  generalize hy : (p : Int) + 1 - (2 - ((p : Int) + 1) % 2) = y
  have : -1 ≤ y ∧ y < 9223372036854775808 := by omega
  unfold wrap64
  omega
 rw [e1, Int.tdiv_eq_ediv_of_nonneg (by omega), show ((p : Int) + 1 - (2 - ((p : Int) + 1) % 2)) / 2 = ((p / 2 : Nat) : Int) from by omega]
 have : p / 2 ≤ p := Nat.div_le_self _ _
 generalize p / 2 = q at *
 unfold wrap64
 omega
theorem yg2 (n : Int) (hn : n < 9223372036854775808) (w : World) :
  Calls prog 78 #[.int .i64 n] w fun e w' => ∃ A c, e = .returned (.slice A (yaR n).length c) ∧ (yaR n).length ≤ c ∧ w'.ownsRow w.heap.size 3 1 (.slice A (yaR n).length c) (yaR n).length (ints (yaR n)) ∧ Below w.heap.size w w' := by
 obtain ⟨i0, hi, hz0, hz1, hz2⟩ := qb1 ycv
 have hl63 := zdigF_len n hn
 by_cases h0 : n ≤ 0
 ·have e0 : yaR n = [] := by unfold yaR; rw [show n.toNat = 0 from by omega, ybf]; rfl
  rw [e0]
  clear e0 hl63
  go_enter func78, ntmps78
  go_wp2
  go_loopw [0, 3] (fun i v wr => i = .int .i64 n ∧ v = .slice none 0 0 ∧ wr = w) (fun _ _ _ => 0)
  case atStart => exact ⟨rfl, rfl, rfl⟩
  case round =>
   obtain ⟨rfl, rfl, rfl⟩ := hrel
   go_wp2
   go_ret
   exact ⟨none, 0, rfl, qad _, qbn _ _ _ _, qak _ _⟩
 ·obtain ⟨N, rfl⟩ : ∃ N : Nat, n = N := ⟨n.toNat, by omega⟩
  have hD : yaR (N : Int) = (zd N).map (· + 1) := by unfold yaR; rw [qan]
  have Hstart : Hid ([] ++ (zd N).map (· + 1) = yaR (N : Int)) := qaa (by rw [hD]; rfl)
  clear hD h0
  generalize yaR (N : Int) = D at *
  go_enter func78, ntmps78
  go_wp2
  go_loopw [0, 3] (fun i v wr => ∃ (m : Nat) (acc : List Int), i = .int .i64 m ∧ (m : Int) < 9223372036854775808 ∧ Hid (acc ++ (zd m).map (· + 1) = D) ∧ Hid (wr.ownsRow w.heap.size 3 1 v acc.length (ints acc)) ∧ Hid (Below w.heap.size w wr)) (fun i _ _ => (intOf i).toNat)
  case atStart => exact ⟨N, [], rfl, hn, Hstart.out, qbn _ _ _ _, qak _ _⟩
  case round =>
   obtain ⟨m, acc, rfl, hm, Hacc, Hown, Hb⟩ := hrel
   cases m with
   | zero =>
    have hf := Hacc.out
    rw [ybf] at hf
    simp at hf
    subst hf
    obtain ⟨A2, c2, rfl, hc2, hr2⟩ := yae Hown.out
    clear hr2
    go_wp2
    go_ret
    exact ⟨A2, c2, rfl, hc2, Hown.out, Hb.out⟩
   | succ p =>
    have hf := Hacc.out
    rw [yhu _ (by omega), show p + 1 - 1 = p from by omega, qcz] at hf
    have hle : acc.length ≤ 62 := by
     have := qbC List.length hf
     rw [qab, qap] at this
     omega
    have hx : ((p % 2 : Nat) : Int) + 1 = 2 - ((p : Int) + 1) % 2 := by omega
    rw [hx] at hf
    have Hn : Hid ((acc ++ [2 - ((p : Int) + 1) % 2]) ++ (zd (p / 2)).map (· + 1) = D) := qaa (by rw [← hf]; simp)
    have hlast : wrap64 ((wrap64 ((p : Int) + 1 - (2 - ((p : Int) + 1) % 2))).tdiv 2) = ((p / 2 : Nat) : Int) := zhalf p (by omega)
    have Hlast := qaa hlast
    have Hm := qaa hm
    have Hle := qaa hle
    have Hszr := qaa Hb.out.size
    clear hm hle hl63 hn hf hx hlast
    go_wp2_with (at_builtin; refine wpList_append_own _ rfl _ _ 28 rfl w.heap.size 3 i0 (.int .i64 0) 1 8 underlying28 hi hz0 hz1 hz2 rfl (by decide) _ _ _ rfl (Hown.out.alloc _) ⟨wr.heap.size, 0, none⟩ 1 1 [.int .i64 (2 - ((p : Int) + 1) % 2)] rfl rfl ?c1 ?c2 ?c3 ?c4 ?c5 ?_)
    case c1 =>
     intro j u hj
     match j, hj with
     | 0, hj => simp at hj; subst hj; simp [Addr.add]
    case c2 => intro u hu; simp at hu; subst hu; rfl
    case c3 => have := Hle.out; unfold maxLen; omega
    case c4 => have := Hle.out; omega
    case c5 => have := Hszr.out; simp; omega
    intro v' w1 hown' hgrow _
    have Hb' : Hid (Below w.heap.size w w1) := qaa ((Below.trans Hb.out (Below.alloc (qak _ _) Hszr.out _)).grown hgrow (by have := Hszr.out; simp; omega) (fun g hg => (Hown.out.lt g hg).1))
    have Hown' : Hid (w1.ownsRow w.heap.size 3 1 v' (acc ++ [2 - ((p : Int) + 1) % 2]).length (ints (acc ++ [2 - ((p : Int) + 1) % 2]))) := qaa (by
     have e1 : (acc ++ [2 - ((p : Int) + 1) % 2]).length = acc.length + 1 := by simp
     have e2 : ints (acc ++ [2 - ((p : Int) + 1) % 2]) = ints acc ++ [.int .i64 (2 - ((p : Int) + 1) % 2)] := by simp [ints]
     rw [e1, e2]
     exact hown')
    clear hown' hgrow
    go_wp2
    go_roundw
    case rel => exact ⟨p / 2, _, iv Hlast.out, by have := Hm.out; omega, Hn.out, Hown'.out, Hb'.out⟩
    case measure =>
     simp only [intOf]
     rw [Hlast.out]
     omega
theorem ygL {w : World} {B : Nat} {v : Value} {D : List Int} {x : Int} {n : Nat} (h : w.ownsRow B 3 1 v n ((ints D) ++ [.int .i64 x])) : w.ownsRow B 3 1 v n (ints (D ++ [x])) := by
 simpa [ints] using h
theorem zpk_more (r : Nat) (t : List Int) : zpk r (0 :: t) = zpk (r + 1) t := by
 conv => lhs; unfold zpk
 rw [qag rfl]
theorem zpk_other (r : Nat) (x : Int) (t : List Int) (h : x ≠ 0) : zpk r (x :: t) = zd r ++ (x + 1) :: zpk 0 t := by
 conv => lhs; unfold zpk
 rw [qae h]
theorem zpackF_bad (l : List Int) (k : Nat) (hk : k < l.length) (h : ¬(0 ≤ l[k] ∧ l[k] ≤ 255)) : ybm l = ([], 60) := by
 unfold ybm
 rw [zgood_bad k hk h]
 rfl
theorem zpackF_good (l : List Int) (h : ya2 255 l = true) : ybm l = (zpk 0 l, 0) := by
 unfold ybm
 rw [qag h]
theorem zref_pack_any (l : List Int) (A : Option Addr) (n c : Nat) (w : World) (hm : n ≤ 1000000) (hr : Reads w w.heap.size 1 A n (ints l)) :
  Calls prog 43 #[.slice A n c] w fun e w' => ∃ A' c', e = .returned (.tuple #[.slice A' (ybm l).1.length c', .int .i64 (ybm l).2]) ∧ (ybm l).1.length ≤ c' ∧ Reads w' w'.heap.size 1 A' (ybm l).1.length (ints (ybm l).1) ∧ Below w.heap.size w w' := by
 obtain ⟨i0, hi, hz0, hz1, hz2⟩ := qb1 ycv
 have en : l.length = n := by have := hr.1; rw [yab] at this; omega
 have Hcell : Hid (0 < n → ∃ b off, A = some ⟨b, off, none⟩ ∧ ∀ wr, Below w.heap.size w wr → ∀ k, (hk : k < l.length) → wr.cell? ⟨b, off + k, none⟩ = some (.int .i64 l[k])) := qaa fun h => by
  obtain ⟨b, off, e, hb, hc⟩ := hr.2 h
  exact ⟨b, off, e, fun wr hw k hk => (hw.cell (p := ⟨b, off + k, none⟩) hb).trans (hc k _ (yai l k hk))⟩
 have Hbad : Hid (∀ k (hk : k < l.length), ¬(0 ≤ l[k] ∧ l[k] ≤ 255) → ybm l = ([], 60)) := qaa (zpackF_bad l)
 have Hgd : Hid (ya2 255 l = true → ybm l = (zpk 0 l, 0)) := qaa (zpackF_good l)
 have HT : Hid ((zpk 0 l).length ≤ 1000000) := qaa (by have := yeZ l 0; omega)
 have Hdr : Hid (∀ (rn : Nat), rn ≤ 1000001 → (yaR (rn : Int)) = (zd rn).map (· + 1) ∧ (zd rn).length ≤ 1000001 ∧ ∀ W, Calls prog 78 #[.int .i64 (rn : Int)] W fun e w' => ∃ A c, e = .returned (.slice A (zd rn).length c) ∧ (zd rn).length ≤ c ∧ w'.ownsRow W.heap.size 3 1 (.slice A (zd rn).length c) (zd rn).length (ints (yaR (rn : Int))) ∧ Below W.heap.size W w') := qaa fun rn hrn => by
  have e1 : yaR (rn : Int) = (zd rn).map (· + 1) := by unfold yaR; rw [qan]
  refine ⟨e1, by have := zd_len rn; omega, fun W => ?_⟩
  have := yg2 (rn : Int) (by omega) W
  rwa [show (yaR (rn : Int)).length = (zd rn).length from by rw [e1, qaD]] at this
 have En := qaa en
 have hnn : (n : Int) ≤ 1000000 := by omega
 have Hstart : Hid ([] ++ zpk 0 (l.drop 0) = zpk 0 l) := qaa rfl
 clear hr en
 generalize ybm l = F at *
 generalize zpk 0 l = T at *
 go_enter func43, ntmps43
 go_wp2
 go_loopw [4, 5, 6] (fun v r i wr => ∃ (k rn : Nat) (o : List Int), k ≤ n + 1 ∧ rn ≤ k ∧ r = .int .i64 rn ∧ i = .int .i64 k ∧ Hid ((k = n + 1 → rn = 0) ∧ ya2 255 (l.take k) = true ∧ o ++ zpk rn (l.drop k) = T) ∧ Hid (wr.ownsRow w.heap.size 3 1 v o.length (ints o)) ∧ Hid (Below w.heap.size w wr)) (fun _ _ i _ => n + 1 - (intOf i).toNat)
 case atStart => exact ⟨0, 0, [], by omega, by omega, rfl, rfl, qaa ⟨fun _ => rfl, rfl, Hstart.out⟩, qbn _ _ _ _, qak _ _⟩
 case round =>
  obtain ⟨k, rn, o, hk, hrn, rfl, rfl, Hd, Hown, Hb⟩ := hrel
  have hszr := Hb.out.size
  have hol : o.length ≤ 1000000 := by
   have h1 := qbC List.length Hd.out.2.2
   have h2 := HT.out
   rw [qab] at h1
   omega
  by_cases hlt : k < n
  ·have hki : (0 : Int) ≤ (k : Int) ∧ (k : Int) < n ∧ (k : Int) ≤ n := by omega
   have hkl : k < l.length := by rw [En.out]; exact hlt
   obtain ⟨b, off, rfl, hcell⟩ := Hcell.out (by omega)
   have hx := hcell wr Hb.out k hkl
   have Hx2 : Hid (∀ W, Below w.heap.size w W → W.cell? ⟨b, off + k, none⟩ = some (.int .i64 l[k])) := qaa fun W hW => hcell W hW k hkl
   have hdrop : l.drop k = l[k] :: l.drop (k + 1) := qau hkl
   have htake : l.take (k + 1) = l.take k ++ [l[k]] := qat hkl
   have hd := Hd.out
   rw [hdrop] at hd
   have Htk : Hid (0 ≤ l[k] ∧ l[k] ≤ 255 → ya2 255 (l.take (k + 1)) = true) := qaa fun h => by
    rw [htake, yer, yaM]
    exact ⟨hd.2.1, h, rfl⟩
   have Hb60 := qaa (Hbad.out k hkl)
   have Hd3 := qaa hd.2.2
   clear hcell hdrop htake hd Hd Hbad Hgd
   generalize l[k] = x at *
   by_cases hneg : x < 0
   ·have Hf := qaa (Hb60.out (by omega))
    go_wp2
    go_ret2
    rw [Hf.out]
    exact ⟨none, 0, rfl, qad _, Reads.none_, Hb.out⟩
   ·by_cases hbig : 255 < x
    ·have Hf := qaa (Hb60.out (by omega))
     go_wp2
     go_ret2
     rw [Hf.out]
     exact ⟨none, 0, rfl, qad _, Reads.none_, Hb.out⟩
    ·have Htk2 := qaa (Htk.out (by omega))
     by_cases hx0 : x = 0
     ·subst hx0
      have Hnext : Hid (o ++ zpk (rn + 1) (l.drop (k + 1)) = T) := qaa (by rw [← zpk_more]; exact Hd3.out)
      go_wp2
      go_roundw
      case rel => exact ⟨k + 1, rn + 1, o, by omega, by omega, iv (by omega), iv (by omega), qaa ⟨fun h => by omega, Htk2.out, Hnext.out⟩, Hown.out, Hb.out⟩
      case measure => simp only [intOf]; omega
     ·obtain ⟨hdf, hdl, hdig⟩ := Hdr.out rn (by omega)
      have hd4 := Hd3.out
      rw [zpk_other _ _ _ hx0] at hd4
      have hget : ∀ q (h : q < (zd rn).length), (ints (yaR (rn : Int)))[q]? = some (.int .i64 ((zd rn)[q] + 1)) := fun q h => by
       rw [yai _ q (by rw [hdf, qaD]; exact h)]
       congr 2
       simp [hdf]
      have hbd : ∀ q (h : q < (zd rn).length), 0 ≤ (zd rn)[q] ∧ (zd rn)[q] ≤ 1 := fun q h => yaX (yci rn) q h
      have Hget := qaa hget
      have Hbd := qaa hbd
      have Hdig := qaa hdig
      have Hd4 : Hid (((o ++ zd rn) ++ [x + 1]) ++ zpk 0 (l.drop (k + 1)) = T) := qaa (by rw [← hd4]; simp)
      have hb0 : (x == 0) = false := by simpa using hx0
      clear hdf hd4 hdig hget hbd
      generalize yaR (rn : Int) = DF at *
      generalize zd rn = D at *
      go_wp2_with (go_at_call 78; refine (Hdig.out _).mono ?_; rintro e w1 ⟨Ad, cd, rfl, hcd, hown1, hb1⟩; have Hown1 := qaa hown1; have Hb1 := qaa hb1; clear hown1 hb1)
      go_loopw [4, 8] (fun v j W => ∃ (q : Nat) (acc : List Int), q ≤ D.length ∧ j = .int .i64 q ∧ Hid (acc.length = o.length + q) ∧ Hid (acc ++ D.drop q = o ++ D) ∧ Hid (W.ownsRow w.heap.size 3 1 v acc.length (ints acc)) ∧ Hid (Below w.heap.size w W) ∧ Hid (W.ownsRow wr.heap.size 3 1 (.slice Ad D.length cd) D.length (ints DF)) ∧ Hid (∀ b, v.ownBlock = some b → (Value.slice Ad D.length cd).ownBlock ≠ some b)) (fun _ j _ => D.length - (intOf j).toNat)
      case atStart =>
       refine ⟨0, o, by omega, rfl, qaa rfl, qaa (by rw [qbi]), qaa (yah Hown.out Hb1.out (qad _)), qaa (Hb.out.trans (Hb1.out.mono Hb.out.size)), Hown1, qaa fun b hb e => ?_⟩
       have h1 := (Hown.out.lt b hb).2
       have h2 := (Hown1.out.lt b e).1
       omega
      case round =>
       obtain ⟨q, acc, hq, rfl, Hal, Hacc, HownA, HbA, HownD, Hne⟩ := hrel
       have hszA := HbA.out.size
       by_cases hlq : q < D.length
       ·have hqi : (0 : Int) ≤ (q : Int) ∧ (q : Int) < D.length := by omega
        obtain ⟨bd, od, rfl, hbl, hcell2⟩ := (ydR HownD.out).2 (by omega)
        have hx1 := hcell2 q _ (Hget.out q hlq)
        have hx2 := Hbd.out q hlq
        have Hac2 : Hid ((acc ++ [D[q]]) ++ D.drop (q + 1) = o ++ D) := qaa (by rw [← Hacc.out, qam, qau hlq]; rfl)
        have Hal2 : Hid ((acc ++ [D[q]]).length = o.length + (q + 1)) := qaa (by rw [qab, Hal.out]; simp; omega)
        have hacl : acc.length ≤ 3000000 := by have := Hal.out; omega
        clear hcell2
        generalize D[q] = y at *
        go_wp2_with (at_builtin; refine yaf _ rfl _ _ 28 rfl w.heap.size 3 i0 (.int .i64 0) 1 8 underlying28 hi hz0 hz1 hz2 rfl (by decide) _ _ _ rfl (HownA.out.alloc _) _ 1 1 _ _ rfl (ya0 _ 3 #[.int .i64 y] 1 1 rfl) ?c1 ?c2 ?c3 ?c4 ?_)
        case c1 => exact rfl
        case c2 => unfold maxLen; omega
        case c3 => omega
        case c4 => simp; omega
        intro v2 w2 hown2 hgrow hsep
        have Hb2 : Hid (Below w.heap.size w w2) := qaa ((HbA.out.trans ((qak _ _).alloc hszA _)).grown hgrow (by simp; omega) (fun g hg => (HownA.out.lt g hg).1))
        have Hown2 : Hid (w2.ownsRow w.heap.size 3 1 v2 (acc ++ [y]).length (ints (acc ++ [y]))) := qaa (by
         rw [qab]
         exact ygL hown2)
        have HD2 := qaa (yay (HownD.out.alloc (.cells #[.int .i64 y] 3)) (yaF hgrow) fun k hk e => Hne.out k e.symm hk)
        have Hne2 : Hid (∀ b, v2.ownBlock = some b → (Value.slice (some ⟨bd, od, none⟩) D.length cd).ownBlock ≠ some b) := qaa fun b hb e => by
         rcases hsep b hb with h | h
         ·exact Hne.out b h e
         ·have := (HownD.out.lt b e).2
          simp at h
          omega
        clear hown2 hgrow hsep
        go_wp2
        go_roundw
        case rel => exact ⟨q + 1, acc ++ [y], by omega, iv (by omega), Hal2.out, Hac2.out, Hown2.out, Hb2.out, HD2.out, Hne2.out⟩
        case measure => simp only [intOf]; omega
       ·obtain rfl : q = D.length := by omega
        have hac := Hacc.out
        rw [qcI, qa8] at hac
        subst hac
        clear Hacc Hal
        have hx2 := Hx2.out _ HbA.out
        have hacl : (o ++ D).length ≤ 3000000 := by rw [qab]; omega
        generalize o ++ D = acc at *
        go_wp2_with (at_builtin; refine yaf _ rfl _ _ 28 rfl w.heap.size 3 i0 (.int .i64 0) 1 8 underlying28 hi hz0 hz1 hz2 rfl (by decide) _ _ _ rfl (HownA.out.alloc _) _ 1 1 _ _ rfl (ya0 _ 3 #[.int .i64 (x + 1)] 1 1 rfl) ?c1 ?c2 ?c3 ?c4 ?_)
        case c1 => exact rfl
        case c2 => unfold maxLen; omega
        case c3 => omega
        case c4 => simp; omega
        intro v2 w2 hown2 hgrow hsep
        have Hb2 : Hid (Below w.heap.size w w2) := qaa ((HbA.out.trans ((qak _ _).alloc hszA _)).grown hgrow (by simp; omega) (fun g hg => (HownA.out.lt g hg).1))
        have Hown2 : Hid (w2.ownsRow w.heap.size 3 1 v2 (acc ++ [x + 1]).length (ints (acc ++ [x + 1]))) := qaa (by
         rw [qab]
         exact ygL hown2)
        clear hown2 hgrow hsep
        go_wp2
        go_roundw
        case rel => exact ⟨k + 1, 0, acc ++ [x + 1], by omega, by omega, rfl, iv (by omega), qaa ⟨fun _ => rfl, Htk2.out, Hd4.out⟩, Hown2.out, Hb2.out⟩
        case measure => simp only [intOf]; omega
  ·rcases qbe n k with hgt | hge
   ·obtain rfl : k = n + 1 := by omega
    obtain ⟨h0, h1, h2⟩ := Hd.out
    have h3 := h0 rfl
    subst h3
    rw [qaH (by have := En.out; omega)] at h2
    rw [qar (by have := En.out; omega)] at h1
    have Ho : Hid (o = T) := qaa (by simpa [zpk, ybf] using h2)
    have Hf := qaa (Hgd.out h1)
    have hgi : (n : Int) < ((n + 1 : Nat) : Int) := by omega
    obtain ⟨A2, c2, rfl, hc2, hr2⟩ := yae Hown.out
    have Hr2 := qaa hr2
    have Hc2 := qaa hc2
    clear h0 h1 h2 Hd hr2 hc2 Hbad
    go_wp2
    go_ret2
    rw [Hf.out]
    refine ⟨A2, c2, ?_, ?_, ?_, Hb.out⟩
    ·show _ = Ending.returned (Value.tuple #[Value.slice A2 T.length c2, Value.int .i64 0])
     rw [← Ho.out]
     rfl
    ·show T.length ≤ c2
     rw [← Ho.out]
     exact Hc2.out
    ·show Reads _ _ 1 A2 T.length (ints T)
     rw [← Ho.out]
     exact Hr2.out
   ·obtain rfl : k = n := by omega
    obtain ⟨h0, h1, h2⟩ := Hd.out
    rw [qaH (by have := En.out; omega)] at h2
    have h2' : o ++ zd rn = T := h2
    have Hh1 : Hid (ya2 255 (l.take (k + 1)) = true) := qaa (by
     rw [qar (by have := En.out; omega)] at h1 ⊢
     exact h1)
    obtain ⟨hdf, hdl, hdig⟩ := Hdr.out rn (by omega)
    have hget : ∀ q (h : q < (zd rn).length), (ints (yaR (rn : Int)))[q]? = some (.int .i64 ((zd rn)[q] + 1)) := fun q h => by
     rw [yai _ q (by rw [hdf, qaD]; exact h)]
     congr 2
     simp [hdf]
    have hbd : ∀ q (h : q < (zd rn).length), 0 ≤ (zd rn)[q] ∧ (zd rn)[q] ≤ 1 := fun q h => yaX (yci rn) q h
    have Hget := qaa hget
    have Hbd := qaa hbd
    have Hdig := qaa hdig
    have Hd4 : Hid ((o ++ zd rn) ++ zpk 0 (l.drop (k + 1)) = T) := qaa (by rw [qaH (by have := En.out; omega)]; simpa [zpk, ybf] using h2')
    clear hdf hdig hget hbd h0 h1 h2 h2' Hd Hbad Hgd
    generalize yaR (rn : Int) = DF at *
    generalize zd rn = D at *
    go_wp2_with (go_at_call 78; refine (Hdig.out _).mono ?_; rintro e w1 ⟨Ad, cd, rfl, hcd, hown1, hb1⟩; have Hown1 := qaa hown1; have Hb1 := qaa hb1; clear hown1 hb1)
    go_loopw [4, 8] (fun v j W => ∃ (q : Nat) (acc : List Int), q ≤ D.length ∧ j = .int .i64 q ∧ Hid (acc.length = o.length + q) ∧ Hid (acc ++ D.drop q = o ++ D) ∧ Hid (W.ownsRow w.heap.size 3 1 v acc.length (ints acc)) ∧ Hid (Below w.heap.size w W) ∧ Hid (W.ownsRow wr.heap.size 3 1 (.slice Ad D.length cd) D.length (ints DF)) ∧ Hid (∀ b, v.ownBlock = some b → (Value.slice Ad D.length cd).ownBlock ≠ some b)) (fun _ j _ => D.length - (intOf j).toNat)
    case atStart =>
     refine ⟨0, o, by omega, rfl, qaa rfl, qaa (by rw [qbi]), qaa (yah Hown.out Hb1.out (qad _)), qaa (Hb.out.trans (Hb1.out.mono Hb.out.size)), Hown1, qaa fun b hb e => ?_⟩
     have h1 := (Hown.out.lt b hb).2
     have h2 := (Hown1.out.lt b e).1
     omega
    case round =>
     obtain ⟨q, acc, hq, rfl, Hal, Hacc, HownA, HbA, HownD, Hne⟩ := hrel
     have hszA := HbA.out.size
     by_cases hlq : q < D.length
     ·have hqi : (0 : Int) ≤ (q : Int) ∧ (q : Int) < D.length := by omega
      obtain ⟨bd, od, rfl, hbl, hcell2⟩ := (ydR HownD.out).2 (by omega)
      have hx1 := hcell2 q _ (Hget.out q hlq)
      have hx2 := Hbd.out q hlq
      have Hac2 : Hid ((acc ++ [D[q]]) ++ D.drop (q + 1) = o ++ D) := qaa (by rw [← Hacc.out, qam, qau hlq]; rfl)
      have Hal2 : Hid ((acc ++ [D[q]]).length = o.length + (q + 1)) := qaa (by rw [qab, Hal.out]; simp; omega)
      have hacl : acc.length ≤ 3000000 := by have := Hal.out; omega
      clear hcell2
      generalize D[q] = y at *
      go_wp2_with (at_builtin; refine yaf _ rfl _ _ 28 rfl w.heap.size 3 i0 (.int .i64 0) 1 8 underlying28 hi hz0 hz1 hz2 rfl (by decide) _ _ _ rfl (HownA.out.alloc _) _ 1 1 _ _ rfl (ya0 _ 3 #[.int .i64 y] 1 1 rfl) ?c1 ?c2 ?c3 ?c4 ?_)
      case c1 => exact rfl
      case c2 => unfold maxLen; omega
      case c3 => omega
      case c4 => simp; omega
      intro v2 w2 hown2 hgrow hsep
      have Hb2 : Hid (Below w.heap.size w w2) := qaa ((HbA.out.trans ((qak _ _).alloc hszA _)).grown hgrow (by simp; omega) (fun g hg => (HownA.out.lt g hg).1))
      have Hown2 : Hid (w2.ownsRow w.heap.size 3 1 v2 (acc ++ [y]).length (ints (acc ++ [y]))) := qaa (by
       rw [qab]
       exact ygL hown2)
      have HD2 := qaa (yay (HownD.out.alloc (.cells #[.int .i64 y] 3)) (yaF hgrow) fun k hk e => Hne.out k e.symm hk)
      have Hne2 : Hid (∀ b, v2.ownBlock = some b → (Value.slice (some ⟨bd, od, none⟩) D.length cd).ownBlock ≠ some b) := qaa fun b hb e => by
       rcases hsep b hb with h | h
       ·exact Hne.out b h e
       ·have := (HownD.out.lt b e).2
        simp at h
        omega
      clear hown2 hgrow hsep
      go_wp2
      go_roundw
      case rel => exact ⟨q + 1, acc ++ [y], by omega, iv (by omega), Hal2.out, Hac2.out, Hown2.out, Hb2.out, HD2.out, Hne2.out⟩
      case measure => simp only [intOf]; omega
     ·obtain rfl : q = D.length := by omega
      have hac := Hacc.out
      rw [qcI, qa8] at hac
      subst hac
      clear Hacc Hal
      go_wp2
      go_roundw
      case rel => exact ⟨k + 1, 0, o ++ D, by omega, by omega, rfl, iv (by omega), qaa ⟨fun _ => rfl, Hh1.out, Hd4.out⟩, HownA.out, HbA.out⟩
      case measure => simp only [intOf]; omega
end Go.Proofs.YtanjhbkbpalnaaaGreat
