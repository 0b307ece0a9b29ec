/-
  Layer 5, plain: the remainder of bytes, bit by bit: it is linear, and no number but 0 goes to 0; what a turned bit does to it.
-/
import Derived.Test.YtodllghfcdbbpaaMore
namespace Go.Proofs.Ytodllghfcdbbpaa
set_option linter.unusedSimpArgs false
set_option linter.unusedVariables false
def poly : BitVec 32 := 0xedb88320#32
def st (b : BitVec 32) : BitVec 32 := bif b.getLsbD 0 then (b >>> 1) ^^^ poly else b >>> 1
theorem st_even {b : BitVec 32} (h : b.getLsbD 0 = false) : st b = b >>> 1 := by unfold st; rw [h]; rfl
theorem st_odd {b : BitVec 32} (h : b.getLsbD 0 = true) : st b = (b >>> 1) ^^^ poly := by unfold st; rw [h]; rfl
theorem st_xor (a b : BitVec 32) : st (a ^^^ b) = st a ^^^ st b := by
  have hx : (a ^^^ b) >>> 1 = (a >>> 1) ^^^ (b >>> 1) := BitVec.ushiftRight_xor_distrib a b 1
  cases ha : a.getLsbD 0 <;> cases hb : b.getLsbD 0
  · rw [st_even ha, st_even hb, st_even (by rw [BitVec.getLsbD_xor, ha, hb]; rfl), hx]
  · rw [st_even ha, st_odd hb, st_odd (by rw [BitVec.getLsbD_xor, ha, hb]; rfl), hx, BitVec.xor_assoc]
  · rw [st_odd ha, st_even hb, st_odd (by rw [BitVec.getLsbD_xor, ha, hb]; rfl), hx, BitVec.xor_assoc, BitVec.xor_assoc, BitVec.xor_comm (b >>> 1)]
  · rw [st_odd ha, st_odd hb, st_even (by rw [BitVec.getLsbD_xor, ha, hb]; rfl), hx, BitVec.xor_assoc, ← BitVec.xor_assoc poly, BitVec.xor_comm poly, BitVec.xor_assoc (b >>> 1), BitVec.xor_self, BitVec.xor_zero]
theorem st_ne {a : BitVec 32} (h : a ≠ 0#32) : st a ≠ 0#32 := by
  intro e
  cases ha : a.getLsbD 0
  · rw [st_even ha] at e
    apply h
    apply BitVec.eq_of_getLsbD_eq
    intro i hi
    rw [BitVec.getLsbD_zero]
    match i with
    | 0 => exact ha
    | i + 1 =>
      have h1 := congrArg (fun v : BitVec 32 => v.getLsbD i) e
      simp only [BitVec.getLsbD_ushiftRight, BitVec.getLsbD_zero] at h1
      rw [Nat.add_comm]
      exact h1
  · rw [st_odd ha] at e
    have h1 := congrArg (fun v : BitVec 32 => v.getLsbD 31) e
    simp only [BitVec.getLsbD_xor, BitVec.getLsbD_ushiftRight, BitVec.getLsbD_zero] at h1
    have h2 : a.getLsbD (1 + 31) = false := BitVec.getLsbD_of_ge a _ (by omega)
    rw [h2] at h1
    exact absurd h1 (by decide)
def sn : Nat → BitVec 32 → BitVec 32
  | 0, c => c
  | n + 1, c => sn n (st c)
theorem sn_add : ∀ (m n : Nat) (c : BitVec 32), sn (m + n) c = sn n (sn m c)
  | 0, n, c => by rw [Nat.zero_add]; rfl
  | m + 1, n, c => by
    rw [show m + 1 + n = (m + n) + 1 from by omega]
    exact sn_add m n (st c)
theorem sn_xor : ∀ (n : Nat) (a b : BitVec 32), sn n (a ^^^ b) = sn n a ^^^ sn n b
  | 0, _, _ => rfl
  | n + 1, a, b => by
    show sn n (st (a ^^^ b)) = _
    rw [st_xor, sn_xor n]
    rfl
theorem sn_ne : ∀ (n : Nat) {a : BitVec 32}, a ≠ 0#32 → sn n a ≠ 0#32
  | 0, _, h => h
  | n + 1, _, h => sn_ne n (st_ne h)
theorem st_shl (y : BitVec 32) (h : y.getLsbD 31 = false) : st (y <<< 1) = y := by
  have h0 : (y <<< 1).getLsbD 0 = false := by simp
  rw [st_even h0]
  apply BitVec.eq_of_getLsbD_eq
  intro i hi
  rw [BitVec.getLsbD_ushiftRight, BitVec.getLsbD_shiftLeft]
  by_cases h31 : i = 31
  · subst h31
    rw [show y.getLsbD 31 = false from h]
    rfl
  · have h2 : 1 + i < 32 := by omega
    simp [h2]
theorem sn_shl (y : BitVec 32) : ∀ (k : Nat), (∀ i, 32 ≤ i + k → y.getLsbD i = false) → sn k (y <<< k) = y
  | 0, _ => by simp [sn]
  | k + 1, h => by
    show sn k (st (y <<< (k + 1))) = y
    have e : y <<< (k + 1) = (y <<< k) <<< 1 := by rw [BitVec.shiftLeft_add]
    rw [e, st_shl _ (by
      rw [BitVec.getLsbD_shiftLeft]
      have := h (31 - k) (by omega)
      simp [this])]
    exact sn_shl y k fun i hi => h i (by omega)
def bb (b : UInt8) : BitVec 32 := BitVec.ofNat 32 b.toNat
def rest (c : BitVec 32) : List UInt8 → BitVec 32
  | [] => c
  | b :: t => rest (sn 8 (c ^^^ bb b)) t
theorem rest_append (c : BitVec 32) : ∀ (a b : List UInt8), rest c (a ++ b) = rest (rest c a) b := by
  intro a
  induction a generalizing c with
  | nil => intro b; rfl
  | cons x t ih => intro b; exact ih _ b
theorem rest_xor : ∀ (t : List UInt8) (c e : BitVec 32), rest (c ^^^ e) t = rest c t ^^^ sn (8 * t.length) e
  | [], _, _ => rfl
  | b :: t, c, e => by
    show rest (sn 8 (c ^^^ e ^^^ bb b)) t = rest (sn 8 (c ^^^ bb b)) t ^^^ _
    have h1 : c ^^^ e ^^^ bb b = (c ^^^ bb b) ^^^ e := by rw [BitVec.xor_assoc, BitVec.xor_comm e, ← BitVec.xor_assoc]
    rw [h1, sn_xor, rest_xor t, ← sn_add, List.length_cons, show 8 + 8 * t.length = 8 * (t.length + 1) from by omega]
theorem bb_zero : bb 0 = 0#32 := rfl
theorem rest_noughts : ∀ (n : Nat) (c : BitVec 32), rest c (List.replicate n 0) = sn (8 * n) c
  | 0, _ => rfl
  | n + 1, c => by
    show rest (sn 8 (c ^^^ bb 0)) (List.replicate n 0) = _
    rw [bb_zero, BitVec.xor_zero, rest_noughts n, ← sn_add, show 8 + 8 * n = 8 * (n + 1) from by omega]
theorem bb_xor (a b : UInt8) : bb (a ^^^ b) = bb a ^^^ bb b := by
  unfold bb
  rw [UInt8.toNat_xor, BitVec.ofNat_xor]
def xorL : List UInt8 → List UInt8 → List UInt8
  | a :: s, b :: t => (a ^^^ b) :: xorL s t
  | s, [] => s
  | [], _ => []
theorem rest_xorL : ∀ (s d : List UInt8) (c e : BitVec 32), s.length = d.length → rest (c ^^^ e) (xorL s d) = rest c s ^^^ rest e d
  | [], [], _, _, _ => rfl
  | [], _ :: _, _, _, h => by simp at h
  | _ :: _, [], _, _, h => by simp at h
  | a :: s, b :: d, c, e, h => by
    show rest (sn 8 (c ^^^ e ^^^ bb (a ^^^ b))) (xorL s d) = rest (sn 8 (c ^^^ bb a)) s ^^^ rest (sn 8 (e ^^^ bb b)) d
    have h1 : c ^^^ e ^^^ bb (a ^^^ b) = (c ^^^ bb a) ^^^ (e ^^^ bb b) := by
      rw [bb_xor]
      simp only [BitVec.xor_assoc]
      congr 1
      rw [← BitVec.xor_assoc, ← BitVec.xor_assoc, BitVec.xor_comm e]
    rw [h1, sn_xor]
    exact rest_xorL s d _ _ (by simpa using h)
theorem rest_turned (p m q d : List UInt8) (c : BitVec 32) (h : m.length = d.length) : rest c (p ++ (xorL m d ++ q)) = rest c (p ++ (m ++ q)) ^^^ rest (rest 0#32 d) (List.replicate q.length 0) := by
  have h1 := rest_xorL m d (rest c p) 0#32 h
  rw [BitVec.xor_zero] at h1
  rw [rest_append, rest_append, rest_append, rest_append, h1, rest_xor, rest_noughts]
def low (v : BitVec 32) : Nat → BitVec 32
  | 0 => 0#32
  | k + 1 => if v.getLsbD k then low v k ^^^ (1#32 <<< k) else low v k
def entry (b : BitVec 32) : BitVec 32 := sn 8 b
theorem by_table (c b : BitVec 32) (hb : ∀ i, 8 ≤ i → b.getLsbD i = false) : sn 8 (c ^^^ b) = (c >>> 8) ^^^ entry ((c &&& 255#32) ^^^ b) := by
  have hsp : c = ((c >>> 8) <<< 8) ^^^ (c &&& 255#32) := by
    apply BitVec.eq_of_getLsbD_eq
    intro i hi
    rw [BitVec.getLsbD_xor, BitVec.getLsbD_shiftLeft, BitVec.getLsbD_and, BitVec.getLsbD_ushiftRight]
    by_cases h8 : i < 8
    · have h255 : (255#32).getLsbD i = true := by
        have : ∀ j : Fin 8, (255#32).getLsbD j.val = true := by decide
        exact this ⟨i, h8⟩
      rw [h255]
      simp [h8]
    · have h255 : (255#32).getLsbD i = false := by
        have : ∀ j : Fin 24, (255#32).getLsbD (j.val + 8) = false := by decide
        have h := this ⟨i - 8, by omega⟩
        rwa [show i - 8 + 8 = i from by omega] at h
      rw [h255]
      have : 8 + (i - 8) = i := by omega
      simp [h8, hi, this]
  have h1 := sn_shl (c >>> 8) 8 (fun i hi => by
    rw [BitVec.getLsbD_ushiftRight]
    exact BitVec.getLsbD_of_ge c _ (by omega))
  conv => lhs; rw [hsp]
  rw [BitVec.xor_assoc, sn_xor, h1]
  rfl
end Go.Proofs.Ytodllghfcdbbpaa
