/-
  Layer 20: a disk's calls that change a directory, or sync it.
-/
import Derived.Test.YtgoahcmgpjacjaaGreatDpF
namespace Go.Proofs.YtgoahcmgpjacjaaGreat
set_option linter.unusedSimpArgs false
set_option linter.unusedVariables false
open Go.ChangeShapes Go.WideShapes Go.ChangeAt Go.RowKit Go.Joins Go.Deep
theorem DTo.from_ {w w1 w2 : World} {S : Nat → Prop} {g : Nat} {E : Dk} (h : DTo w1 w2 S g E) (hb : Below w.heap.size w w1) : DTo w w2 S g E := by
  obtain ⟨h1, fb, bn, bs, Mn, Ms, A, c, lf, h2, h3⟩ := h
  exact ⟨(touch_below hb (Nat.le_refl _)).trans h1, fb, bn, bs, Mn, Ms, A, c, lf, h2, fun k hk => (h3 k hk).imp id (Nat.le_trans hb.size)⟩
set_option maxRecDepth 100000 in
set_option maxHeartbeats 8000000 in
theorem q_drem_b {D : Dk} {fb : List Nat} {bn bs : Nat} {Mn Ms : DataW Unit} {A : Option Addr} {c g : Nat} {lf : Int} {S : Nat → Prop} (w : World) (h : DMm w g D fb bn bs Mn Ms A c lf) (hS : ∀ k, DSet g fb bn bs A k → S k) (hD : DSm 1000 D) (s : List UInt8) (hl : s.length ≤ 100000) (hs : D.shut s = 0) :
    Calls Tryz.prog 33 #[.pointer (some ⟨g, 0, none⟩), .string ⟨s.toArray⟩] w fun e w' => e = .returned (.int .i64 D.told) ∧ DTo w w' S g (D.change (s, ([], 0))) := by
  have hf := p_dfind w h s (by omega)
  rw [if_pos hs, hs] at hf
  obtain ⟨hd, h0, hn⟩ := h.find_ hD.hist hs
  have HF := Lib.hid hf
  have HM := Lib.hid h
  have HS := Lib.hid hS
  have HFl := Lib.hid (h.fl _ h0 hn)
  have H0 := Lib.hid h0
  have HN := Lib.hid hn
  have hmz : Maps.size Mn ≤ 1000000 := by rw [h.isn.size h.now dlaw Tryz.underlying9 hD.hist.one (fun e he => (hD.wf.dir e he).1)]; have := hD.dir; omega
  have hc := p_dchange w h hS hD.hist hd hmz (by have := hD.chg; omega) ⟨hD.ops.1, by have := hD.ops.2; omega⟩ (s, ([], 0)) (drem_ck h.gd hD.hist h0)
  have hnm := (h.gd.named hD.hist h0).1
  unfold cfv at hc
  dsimp only at hc
  rw [if_neg hnm, if_pos rfl] at hc
  have HC := Lib.hid hc
  generalize D.find s = n at *
  clear h hS hD hf hl hs h0 hn hd hmz hc hnm
  go_enter Tryz.func33, Tryz.ntmps33
  go_wp2_with (first
    | (go_at_call 45; (with_reducible refine HF.out.mono ?_); rintro e w1 ⟨rfl, hw1⟩; obtain rfl := hw1.symm)
    | (go_at_call 43; (with_reducible refine HC.out.mono ?_); rintro e w6 ⟨rfl, ht6⟩; have HT6 := Lib.hid ht6; clear ht6)
    | fail)
  go_ret
  exact ⟨rfl, HT6.out⟩
set_option maxRecDepth 100000 in
set_option maxHeartbeats 8000000 in
theorem q_dren_b {D : Dk} {fb : List Nat} {bn bs : Nat} {Mn Ms : DataW Unit} {A : Option Addr} {c g : Nat} {lf : Int} {S : Nat → Prop} (w : World) (h : DMm w g D fb bn bs Mn Ms A c lf) (hS : ∀ k, DSet g fb bn bs A k → S k) (hD : DSm 1000 D) (s u : List UInt8) (hl : s.length ≤ 100000) (hu : u.length ≤ 100000) (hs : D.shut s = 0) (hk : nchkF u ≠ 0) :
    Calls Tryz.prog 32 #[.pointer (some ⟨g, 0, none⟩), .string ⟨s.toArray⟩, .string ⟨u.toArray⟩] w fun e w' => e = .returned (.int .i64 (nchkF u)) ∧ DTo w w' S g D := by
  have hf := p_dfind w h s (by omega)
  rw [if_pos hs, hs] at hf
  obtain ⟨hd, h0, hn⟩ := h.find_ hD.hist hs
  have HF := Lib.hid hf
  have HM := Lib.hid h
  have HS := Lib.hid hS
  have HFl := Lib.hid (h.fl _ h0 hn)
  have H0 := Lib.hid h0
  have HN := Lib.hid hn
  have HK := Lib.hid fun W => p_nchk_any u W (by omega)
  have hrr : ((nchkF u : Int) == 0) = false := by rw [beq_eq_false_iff_ne]; exact hk
  generalize nchkF u = r at *
  generalize D.find s = n at *
  clear h hS hD hf hl hu hs h0 hn hd hk
  go_enter Tryz.func32, Tryz.ntmps32
  go_wp2_with (first
    | (go_at_call 45; (with_reducible refine HF.out.mono ?_); rintro e w1 ⟨rfl, hw1⟩; obtain rfl := hw1.symm)
    | (go_at_call 42; (with_reducible refine (HK.out _).mono ?_); rintro e w2 ⟨rfl, hb2⟩; have HB2 := Lib.hid hb2; clear hb2)
    | fail)
  go_ret
  exact ⟨rfl, HM.out.to HS.out HB2.out⟩
set_option maxRecDepth 100000 in
set_option maxHeartbeats 8000000 in
theorem q_dren_c {D : Dk} {fb : List Nat} {bn bs : Nat} {Mn Ms : DataW Unit} {A : Option Addr} {c g : Nat} {lf : Int} {S : Nat → Prop} (w : World) (h : DMm w g D fb bn bs Mn Ms A c lf) (hS : ∀ k, DSet g fb bn bs A k → S k) (hD : DSm 1000 D) (s u : List UInt8) (hl : s.length ≤ 100000) (hu : u.length ≤ 100000) (hs : D.shut s = 0) (hk : nchkF u = 0) (he : s = u) :
    Calls Tryz.prog 32 #[.pointer (some ⟨g, 0, none⟩), .string ⟨s.toArray⟩, .string ⟨u.toArray⟩] w fun e w' => e = .returned (.int .i64 2) ∧ DTo w w' S g D := by
  have hf := p_dfind w h s (by omega)
  rw [if_pos hs, hs] at hf
  obtain ⟨hd, h0, hn⟩ := h.find_ hD.hist hs
  have HF := Lib.hid hf
  have HM := Lib.hid h
  have HS := Lib.hid hS
  have HFl := Lib.hid (h.fl _ h0 hn)
  have H0 := Lib.hid h0
  have HN := Lib.hid hn
  have HK := Lib.hid fun W => p_nchk_any u W (by omega)
  rw [hk] at HK
  subst he
  generalize D.find s = n at *
  clear h hS hD hf hl hu hs h0 hn hd hk
  go_enter Tryz.func32, Tryz.ntmps32
  go_wp2_with (first
    | (go_at_call 45; (with_reducible refine HF.out.mono ?_); rintro e w1 ⟨rfl, hw1⟩; obtain rfl := hw1.symm)
    | (go_at_call 42; (with_reducible refine (HK.out _).mono ?_); rintro e w2 ⟨rfl, hb2⟩; have HB2 := Lib.hid hb2; clear hb2)
    | fail)
  go_ret
  exact ⟨rfl, HM.out.to HS.out HB2.out⟩
set_option maxRecDepth 100000 in
set_option maxHeartbeats 8000000 in
theorem q_dren_d {D : Dk} {fb : List Nat} {bn bs : Nat} {Mn Ms : DataW Unit} {A : Option Addr} {c g : Nat} {lf : Int} {S : Nat → Prop} (w : World) (h : DMm w g D fb bn bs Mn Ms A c lf) (hS : ∀ k, DSet g fb bn bs A k → S k) (hD : DSm 1000 D) (s u : List UInt8) (hl : s.length ≤ 100000) (hu : u.length ≤ 100000) (hs : D.shut s = 0) (hk : nchkF u = 0) (he : s ≠ u) :
    Calls Tryz.prog 32 #[.pointer (some ⟨g, 0, none⟩), .string ⟨s.toArray⟩, .string ⟨u.toArray⟩] w fun e w' => e = .returned (.int .i64 D.told) ∧ DTo w w' S g (D.change (s, (u, D.find s))) := by
  have hf := p_dfind w h s (by omega)
  rw [if_pos hs, hs] at hf
  obtain ⟨hd, h0, hn⟩ := h.find_ hD.hist hs
  have HF := Lib.hid hf
  have HM := Lib.hid h
  have HS := Lib.hid hS
  have HFl := Lib.hid (h.fl _ h0 hn)
  have H0 := Lib.hid h0
  have HN := Lib.hid hn
  have HK := Lib.hid fun W => p_nchk_any u W (by omega)
  have hmz : Maps.size Mn ≤ 1000000 := by rw [h.isn.size h.now dlaw Tryz.underlying9 hD.hist.one (fun e he => (hD.wf.dir e he).1)]; have := hD.dir; omega
  rw [hk] at HK
  have hnm := (h.gd.named hD.hist h0).1
  have hnu := (nchk_len hk).1
  have HC : Hid (∀ W, Below w.heap.size w W → Calls Tryz.prog 43 #[.pointer (some ⟨g, 0, none⟩), .func (.func 67) #[.agg #[.string ⟨s.toArray⟩, .string ⟨u.toArray⟩]] #[]] W fun e w' => e = .returned (.int .i64 D.told) ∧ DTo W w' S g (D.change (s, (u, D.find s)))) := Lib.hid fun W hb => by
    have hc := p_dchange W (h.on hb) hS hD.hist hd hmz (by have := hD.chg; omega) ⟨hD.ops.1, by have := hD.ops.2; omega⟩ (s, (u, D.find s)) (dren_ck h.gd hD.hist h0 hk he)
    unfold cfv at hc
    dsimp only at hc
    rw [if_neg hnm, if_neg hnu] at hc
    exact hc
  have hsl : (s == u) = false := by rw [beq_eq_false_iff_ne]; exact he
  clear h hS hD hf hl hu hs h0 hn hd hk hmz hnm hnu
  go_enter Tryz.func32, Tryz.ntmps32
  go_wp2_with (first
    | (go_at_call 45; (with_reducible refine HF.out.mono ?_); rintro e w1 ⟨rfl, hw1⟩; obtain rfl := hw1.symm)
    | (go_at_call 42; (with_reducible refine (HK.out _).mono ?_); rintro e w2 ⟨rfl, hb2⟩; have HB2 := Lib.hid hb2; clear hb2)
    | (go_at_call 43; (with_reducible refine (HC.out _ HB2.out).mono ?_); rintro e w6 ⟨rfl, ht6⟩; have HT6 := Lib.hid ht6; clear ht6)
    | fail)
  go_ret
  exact ⟨rfl, HT6.out.from_ HB2.out⟩
set_option maxRecDepth 100000 in
set_option maxHeartbeats 8000000 in
theorem q_dcre_a {D : Dk} {fb : List Nat} {bn bs : Nat} {Mn Ms : DataW Unit} {A : Option Addr} {c g : Nat} {lf : Int} {S : Nat → Prop} (w : World) (h : DMm w g D fb bn bs Mn Ms A c lf) (hS : ∀ k, DSet g fb bn bs A k → S k) (hD : DSm 1000 D) (s : List UInt8) (hl : s.length ≤ 100000) (hd : D.dead = true) :
    Calls Tryz.prog 11 #[.pointer (some ⟨g, 0, none⟩), .string ⟨s.toArray⟩] w fun e w' => e = .returned (.int .i64 200) ∧ DTo w w' S g D := by
  have HR := Lib.hid (p_dready w h)
  have HK := Lib.hid fun W => p_nchk_any s W (by omega)
  have HM := Lib.hid h
  have HS := Lib.hid hS
  rw [if_pos hd] at HR
  clear h hS hD hl hd
  go_enter Tryz.func11, Tryz.ntmps11
  go_wp2_with (first | (go_at_call 41; (with_reducible refine HR.out.mono ?_); rintro e w1 ⟨rfl, hw1⟩; obtain rfl := hw1.symm) | fail)
  go_ret
  exact ⟨rfl, HM.out.to HS.out (Below.refl _ _)⟩
set_option maxRecDepth 100000 in
set_option maxHeartbeats 8000000 in
theorem q_dcre_b {D : Dk} {fb : List Nat} {bn bs : Nat} {Mn Ms : DataW Unit} {A : Option Addr} {c g : Nat} {lf : Int} {S : Nat → Prop} (w : World) (h : DMm w g D fb bn bs Mn Ms A c lf) (hS : ∀ k, DSet g fb bn bs A k → S k) (hD : DSm 1000 D) (s : List UInt8) (hl : s.length ≤ 100000) (hd : ¬ D.dead = true) (hk : nchkF s ≠ 0) :
    Calls Tryz.prog 11 #[.pointer (some ⟨g, 0, none⟩), .string ⟨s.toArray⟩] w fun e w' => e = .returned (.int .i64 (nchkF s)) ∧ DTo w w' S g D := by
  have HR := Lib.hid (p_dready w h)
  have HK := Lib.hid fun W => p_nchk_any s W (by omega)
  have HM := Lib.hid h
  have HS := Lib.hid hS
  rw [if_neg hd] at HR
  have hrr : ((nchkF s : Int) == 0) = false := by rw [beq_eq_false_iff_ne]; exact hk
  generalize nchkF s = r at *
  clear h hS hD hl hd hk
  go_enter Tryz.func11, Tryz.ntmps11
  go_wp2_with (first | (go_at_call 41; (with_reducible refine HR.out.mono ?_); rintro e w1 ⟨rfl, hw1⟩; obtain rfl := hw1.symm) | (go_at_call 42; (with_reducible refine (HK.out _).mono ?_); rintro e w2 ⟨rfl, hb2⟩; have HB2 := Lib.hid hb2; clear hb2) | fail)
  go_ret
  exact ⟨rfl, HM.out.to HS.out HB2.out⟩
set_option maxRecDepth 100000 in
set_option maxHeartbeats 8000000 in
theorem q_dcre_c {D : Dk} {fb : List Nat} {bn bs : Nat} {Mn Ms : DataW Unit} {A : Option Addr} {c g : Nat} {lf : Int} {S : Nat → Prop} (w : World) (h : DMm w g D fb bn bs Mn Ms A c lf) (hS : ∀ k, DSet g fb bn bs A k → S k) (hD : DSm 1000 D) (s : List UInt8) (hl : s.length ≤ 100000) (hd : ¬ D.dead = true) (hk : nchkF s = 0) (hf : 0 ≤ D.find s) :
    Calls Tryz.prog 11 #[.pointer (some ⟨g, 0, none⟩), .string ⟨s.toArray⟩] w fun e w' => e = .returned (.int .i64 202) ∧ DTo w w' S g D := by
  have HR := Lib.hid (p_dready w h)
  have HK := Lib.hid fun W => p_nchk_any s W (by omega)
  have HM := Lib.hid h
  have HS := Lib.hid hS
  have HLK : Hid (∀ W, Below w.heap.size w W → (Instr.lookup 57 (.map (some bn)) (.string ⟨s.toArray⟩) false).run Tryz.prog W = .ok (.pointer (some ⟨fbk fb (dfindL s D.dir), 0, none⟩)) W) := Lib.hid fun W hb => by
    have := map_look (h.on hb).now h.isn s (by unfold maxLen; omega)
    unfold fpt at this
    unfold Dk.find at hf
    rw [if_pos hf] at this
    exact this
  rw [if_neg hd] at HR
  rw [hk] at HK
  clear h hS hD hl hd hk hf
  go_enter Tryz.func11, Tryz.ntmps11
  go_wp2_with (first | (go_at_call 41; (with_reducible refine HR.out.mono ?_); rintro e w1 ⟨rfl, hw1⟩; obtain rfl := hw1.symm) | (go_at_call 42; (with_reducible refine (HK.out _).mono ?_); rintro e w2 ⟨rfl, hb2⟩; have HB2 := Lib.hid hb2; have hlk2 := HLK.out _ hb2; have hm2 := HM.out.on hb2; have HM2 := Lib.hid hm2; have g2 := hm2.box.cell 2; unfold dbx at g2; simp only [List.getElem?_toArray, List.getElem?_cons_zero, List.getElem?_cons_succ] at g2; clear hb2 hm2) | fail)
  go_ret
  exact ⟨rfl, HM.out.to HS.out HB2.out⟩
set_option maxRecDepth 100000 in
set_option maxHeartbeats 8000000 in
theorem q_dcre_d {D : Dk} {fb : List Nat} {bn bs : Nat} {Mn Ms : DataW Unit} {A : Option Addr} {c g : Nat} {lf : Int} {S : Nat → Prop} (w : World) (h : DMm w g D fb bn bs Mn Ms A c lf) (hS : ∀ k, DSet g fb bn bs A k → S k) (hD : DSm 1000 D) (s : List UInt8) (hl : s.length ≤ 100000) (hd : ¬ D.dead = true) (hk : nchkF s = 0) (hf : ¬ 0 ≤ D.find s) (hn : 200 ≤ D.dir.length) :
    Calls Tryz.prog 11 #[.pointer (some ⟨g, 0, none⟩), .string ⟨s.toArray⟩] w fun e w' => e = .returned (.int .i64 203) ∧ DTo w w' S g D := by
  have HR := Lib.hid (p_dready w h)
  have HK := Lib.hid fun W => p_nchk_any s W (by omega)
  have HM := Lib.hid h
  have HS := Lib.hid hS
  have HLK : Hid (∀ W, Below w.heap.size w W → (Instr.lookup 57 (.map (some bn)) (.string ⟨s.toArray⟩) false).run Tryz.prog W = .ok (.pointer none) W) := Lib.hid fun W hb => by
    have := map_look (h.on hb).now h.isn s (by unfold maxLen; omega)
    unfold fpt at this
    unfold Dk.find at hf
    rw [if_neg hf] at this
    exact this
  have hz : ((Maps.size Mn : Nat) : Int) = (D.dir.length : Int) := by rw [h.isn.size h.now dlaw Tryz.underlying9 hD.hist.one (fun e he => (hD.wf.dir e he).1)]
  have hz2 : (200 : Int) ≤ ((Maps.size Mn : Nat) : Int) := by omega
  rw [if_neg hd] at HR
  rw [hk] at HK
  clear h hS hD hl hd hk hf hn hz
  go_enter Tryz.func11, Tryz.ntmps11
  go_wp2_with (first
    | (go_at_call 41; (with_reducible refine HR.out.mono ?_); rintro e w1 ⟨rfl, hw1⟩; obtain rfl := hw1.symm)
    | (go_at_call 42; (with_reducible refine (HK.out _).mono ?_); rintro e w2 ⟨rfl, hb2⟩; have HB2 := Lib.hid hb2; have hlk2 := HLK.out _ hb2; have hm2 := HM.out.on hb2; have HM2 := Lib.hid hm2; have g2 := hm2.box.cell 2; unfold dbx at g2; simp only [List.getElem?_toArray, List.getElem?_cons_zero, List.getElem?_cons_succ] at g2; clear hb2 hm2)
    | (at_len; refine wpList_len_own _ rfl _ 57 rfl 9 74 Tryz.underlying57 ptE bn _ Mn rfl HM2.out.now ?_)
    | fail)
  go_ret
  exact ⟨rfl, HM.out.to HS.out HB2.out⟩
theorem create_files {D : Dk} (h : DHist D) : DHist ({ D with files := D.files ++ [([], [])] } : Dk) := h.of ⟨dokL_more h.wf.dir (by simp), dokL_more h.wf.safe (by simp), fun c hc hn => by
    have := h.wf.chg c hc hn
    exact ⟨this.1, by simp; omega⟩⟩ rfl rfl rfl
theorem DMm.more {w : World} {D : Dk} {fb : List Nat} {bn bs : Nat} {Mn Ms : DataW Unit} {A : Option Addr} {c g : Nat} {lf : Int} (h : DMm w g D fb bn bs Mn Ms A c lf) (hH : DHist D) :
    DMm (w.alloc (.cells #[.string ⟨#[]⟩, .string ⟨#[]⟩] 78)) g { D with files := D.files ++ [([], [])] } (fb ++ [w.heap.size]) bn bs Mn Ms A c lf := by
  have hm := h.on ((Below.refl w.heap.size w).alloc (Nat.le_refl _) (.cells #[.string ⟨#[]⟩, .string ⟨#[]⟩] 78))
  have hl : (fb ++ [w.heap.size]).length = fb.length + 1 := by simp
  have hN := Blk.new w 78 #[.string ⟨#[]⟩, .string ⟨#[]⟩]
  have hch : ∀ c ∈ D.chg, cfv (fb ++ [w.heap.size]) c = cfv fb c := fun c hc => by
    unfold cfv
    split
    · rename_i h1
      obtain ⟨k, hk, rfl⟩ := List.getElem_of_mem hc
      have h2 := h.gd.chg k hk
      rcases h2 with h2 | h2 | h2
      · have h3 := hH.wf.chg _ hc h2.2.1
        rw [fbk_app _ (by rw [h.fln]; exact h3)]
      · exact absurd h1 h2.1
      · exact absurd h1 h2.1
    · rfl
  refine ⟨hm.box, hm.now, hm.syn, ?_, ?_, fun n h1 h2 => ?_, fun n m h1 h2 h3 h4 he => ?_, h.two, h.isn.more (by rw [h.fln]; exact hH.wf.dir) _, h.iss.more (by rw [h.fln]; exact hH.wf.safe) _, h.lf, h.gd.of rfl rfl⟩
  · have := hm.row
    rw [← List.map_congr_left hch] at this
    exact this
  · dsimp only
    rw [hl, List.length_append, h.fln]
    rfl
  · rw [hl] at h2
    by_cases h3 : n < (fb.length : Int)
    · rw [fbk_app _ ⟨h1, h3⟩]
      have h4 := hm.fl n h1 h3
      have h5 : ({ D with files := D.files ++ [([], [])] } : Dk).file n = D.file n := by
        unfold Dk.file
        dsimp only
        rw [List.getD_eq_getElem?_getD, List.getD_eq_getElem?_getD, List.getElem?_append_left (by rw [← h.fln]; omega)]
      rw [h5]
      exact h4
    · obtain rfl : n = (fb.length : Int) := by omega
      rw [fbk_new]
      have h5 : ({ D with files := D.files ++ [([], [])] } : Dk).file (fb.length : Int) = ([], []) := by
        unfold Dk.file
        dsimp only
        rw [List.getD_eq_getElem?_getD, h.fln, Int.toNat_natCast, List.getElem?_append_right (Nat.le_refl _)]
        simp
      rw [h5]
      exact hN
  · rw [hl] at h2 h4
    have hlt : ∀ i : Int, 0 ≤ i → i < (fb.length : Int) → fbk fb i ≠ w.heap.size := fun i k1 k2 e => by
      have := (h.fl i k1 k2).lt
      omega
    by_cases k1 : n < (fb.length : Int)
    · by_cases k2 : m < (fb.length : Int)
      · rw [fbk_app _ ⟨h1, k1⟩, fbk_app _ ⟨h3, k2⟩] at he
        exact h.inj n m h1 k1 h3 k2 he
      · obtain rfl : m = (fb.length : Int) := by omega
        rw [fbk_app _ ⟨h1, k1⟩, fbk_new] at he
        exact absurd he (hlt n h1 k1)
    · obtain rfl : n = (fb.length : Int) := by omega
      by_cases k2 : m < (fb.length : Int)
      · rw [fbk_app _ ⟨h3, k2⟩, fbk_new] at he
        exact absurd he.symm (hlt m h3 k2)
      · omega
set_option maxRecDepth 100000 in
set_option maxHeartbeats 8000000 in
theorem q_dcre_e {D : Dk} {fb : List Nat} {bn bs : Nat} {Mn Ms : DataW Unit} {A : Option Addr} {c g : Nat} {lf : Int} {S : Nat → Prop} (w : World) (h : DMm w g D fb bn bs Mn Ms A c lf) (hS : ∀ k, DSet g fb bn bs A k → S k) (hD : DSm 1000 D) (s : List UInt8) (hl : s.length ≤ 100000) (hd : ¬ D.dead = true) (hk : nchkF s = 0) (hf : ¬ 0 ≤ D.find s) (hn : ¬ 200 ≤ D.dir.length) :
    Calls Tryz.prog 11 #[.pointer (some ⟨g, 0, none⟩), .string ⟨s.toArray⟩] w fun e w' => e = .returned (.int .i64 D.told) ∧ DTo w w' S g (({ D with files := D.files ++ [([], [])] } : Dk).change ([], (s, (D.files.length : Int)))) := by
  have HR := Lib.hid (p_dready w h)
  have HK := Lib.hid fun W => p_nchk_any s W (by omega)
  have HM := Lib.hid h
  have HS := Lib.hid hS
  have HLK : Hid (∀ W, Below w.heap.size w W → (Instr.lookup 57 (.map (some bn)) (.string ⟨s.toArray⟩) false).run Tryz.prog W = .ok (.pointer none) W) := Lib.hid fun W hb => by
    have := map_look (h.on hb).now h.isn s (by unfold maxLen; omega)
    unfold fpt at this
    unfold Dk.find at hf
    rw [if_neg hf] at this
    exact this
  have hz : ((Maps.size Mn : Nat) : Int) = (D.dir.length : Int) := by rw [h.isn.size h.now dlaw Tryz.underlying9 hD.hist.one (fun e he => (hD.wf.dir e he).1)]
  have hz2 : ¬ (200 : Int) ≤ ((Maps.size Mn : Nat) : Int) := by omega
  have hmz : Maps.size Mn ≤ 1000000 := by have := hD.dir; omega
  have hdd : D.dead = false := by cases hx : D.dead with | true => exact absurd hx hd | false => rfl
  have hkn := (nchk_len hk).1
  have HC : Hid (∀ W, DMm W g D fb bn bs Mn Ms A c lf → w.heap.size ≤ W.heap.size → Touch w (W.alloc (.cells #[.string ⟨#[]⟩, .string ⟨#[]⟩] 78)) S → Calls Tryz.prog 43 #[.pointer (some ⟨g, 0, none⟩), .func (.func 44) #[.agg #[.string ⟨s.toArray⟩, .pointer (some ⟨W.heap.size, 0, none⟩)]] #[]] (W.alloc (.cells #[.string ⟨#[]⟩, .string ⟨#[]⟩] 78)) fun e w' => e = .returned (.int .i64 D.told) ∧ DTo w w' S g (({ D with files := D.files ++ [([], [])] } : Dk).change ([], (s, (D.files.length : Int))))) := Lib.hid fun W hW hsz ht => by
    have hm := hW.more hD.hist
    have hl : fb.length = D.files.length := h.fln
    have hc := p_dchange (S := fun k => S k ∨ w.heap.size ≤ k) _ hm (fun k hk' => by
      rcases hk' with e | e | e | ⟨n, h1, h2, rfl⟩ | e
      · exact .inl (hS k (.inl e))
      · exact .inl (hS k (.inr (.inl e)))
      · exact .inl (hS k (.inr (.inr (.inl e))))
      · by_cases h3 : n < (fb.length : Int)
        · rw [fbk_app _ ⟨h1, h3⟩]
          exact .inl (hS _ (.inr (.inr (.inr (.inl ⟨n, h1, h3, rfl⟩)))))
        · obtain rfl : n = (fb.length : Int) := by rw [List.length_append, List.length_singleton] at h2; omega
          rw [fbk_new]
          exact .inr hsz
      · exact .inl (hS k (.inr (.inr (.inr (.inr e)))))) (create_files hD.hist) hdd hmz (by have := hD.chg; show D.chg.length ≤ _; omega) ⟨hD.ops.1, by have := hD.ops.2; show D.ops ≤ _; omega⟩ ([], (s, (D.files.length : Int))) (dcreate_ck (D := D) hk (by omega))
    unfold cfv at hc
    dsimp only at hc
    rw [if_pos rfl, ← hl, fbk_new] at hc
    rw [← hl]
    refine hc.mono fun e w' hx => ⟨hx.1, ?_⟩
    obtain ⟨-, k1, fb', bn', bs', Mn', Ms', A', c', lf', k2, k3⟩ := hx
    refine ⟨ht.next k1 (fun k hk1 hk2 => hk2.resolve_right (by omega)), fb', bn', bs', Mn', Ms', A', c', lf', k2, fun k hk' => ?_⟩
    rcases k3 k hk' with (h4 | h4) | h4
    · exact .inl h4
    · exact .inr h4
    · exact .inr (Nat.le_trans ht.size h4)
  rw [if_neg hd] at HR
  rw [hk] at HK
  clear h hS hD hl hd hk hf hn hz hmz hdd hkn
  go_enter Tryz.func11, Tryz.ntmps11
  go_wp2_with (first
    | (go_at_call 41; (with_reducible refine HR.out.mono ?_); rintro e w1 ⟨rfl, hw1⟩; obtain rfl := hw1.symm)
    | (go_at_call 42; (with_reducible refine (HK.out _).mono ?_); rintro e w2 ⟨rfl, hb2⟩; have HB2 := Lib.hid hb2; have hlk2 := HLK.out _ hb2; have hm2 := HM.out.on hb2; have HM2 := Lib.hid hm2; have g2 := hm2.box.cell 2; unfold dbx at g2; simp only [List.getElem?_toArray, List.getElem?_cons_zero, List.getElem?_cons_succ] at g2; clear hb2 hm2)
    | (at_len; refine wpList_len_own _ rfl _ 57 rfl 9 74 Tryz.underlying57 ptE bn _ Mn rfl HM2.out.now ?_)
    | (go_at_call 43; (with_reducible refine (HC.out _ HM2.out HB2.out.size (touch_below (HB2.out.alloc HB2.out.size _) (Nat.le_refl _))).mono ?_); rintro e w6 ⟨rfl, ht6⟩; have HT6 := Lib.hid ht6; clear ht6)
    | fail)
  go_ret
  exact ⟨rfl, HT6.out⟩
set_option maxRecDepth 100000 in
set_option maxHeartbeats 8000000 in
theorem q_ddirs_a {D : Dk} {fb : List Nat} {bn bs : Nat} {Mn Ms : DataW Unit} {A : Option Addr} {c g : Nat} {lf : Int} {S : Nat → Prop} (w : World) (h : DMm w g D fb bn bs Mn Ms A c lf) (hS : ∀ k, DSet g fb bn bs A k → S k) (hD : DSm 1000 D) (hd : D.dead = true) :
    Calls Tryz.prog 14 #[.pointer (some ⟨g, 0, none⟩)] w fun e w' => e = .returned (.int .i64 200) ∧ DTo w w' S g D := by
  have HR := Lib.hid (p_dready w h)
  have HM := Lib.hid h
  have HS := Lib.hid hS
  rw [if_pos hd] at HR
  clear h hS hD hd
  go_enter Tryz.func14, Tryz.ntmps14
  go_wp2_with (first | (go_at_call 41; (with_reducible refine HR.out.mono ?_); rintro e w1 ⟨rfl, hw1⟩; obtain rfl := hw1.symm) | fail)
  go_ret
  exact ⟨rfl, HM.out.to HS.out (Below.refl _ _)⟩
set_option maxRecDepth 100000 in
set_option maxHeartbeats 8000000 in
theorem q_ddirs_b {D : Dk} {fb : List Nat} {bn bs : Nat} {Mn Ms : DataW Unit} {A : Option Addr} {c g : Nat} {lf : Int} {S : Nat → Prop} (w : World) (h : DMm w g D fb bn bs Mn Ms A c lf) (hS : ∀ k, DSet g fb bn bs A k → S k) (hD : DSm 1000 D) (hd : D.dead = false) (ha : D.last = true) :
    Calls Tryz.prog 14 #[.pointer (some ⟨g, 0, none⟩)] w fun e w' => e = .returned (.int .i64 200) ∧ DTo w w' S g D.counted := by
  have HR := Lib.hid (p_dready w h)
  have HO := Lib.hid (q_dop w h hd ⟨hD.ops.1, by have := hD.ops.2; omega⟩)
  unfold Dk.told at HO
  rw [if_pos ha] at HO
  have HM := Lib.hid h
  have HS := Lib.hid hS
  rw [if_neg (by rw [hd]; decide)] at HR
  clear h hS hD hd ha
  go_enter Tryz.func14, Tryz.ntmps14
  go_wp2_with (first | (go_at_call 41; (with_reducible refine HR.out.mono ?_); rintro e w1 ⟨rfl, hw1⟩; obtain rfl := hw1.symm) | (go_at_call 48; (with_reducible refine HO.out.mono ?_); rintro e w2 ⟨rfl, hm2, ht2⟩; have HM2 := Lib.hid hm2; have HT2 := Lib.hid (ht2.mono (S' := S) (fun k _ e => by rw [e]; exact HS.out g (.inl rfl))); skip; clear hm2 ht2) | fail)
  go_ret
  exact ⟨rfl, HM2.out.done HT2.out HS.out⟩
end Go.Proofs.YtgoahcmgpjacjaaGreat
