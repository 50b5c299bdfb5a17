import Derived.Test.YtponmokiogdejaaCrcHelp
import Derived.Laws.IdiomArrays
namespace Go.Proofs.Ytponmokiogdejaa
open Go.RowKit Crc

namespace Crc
theorem xor_left_inj {a b c : Nat} (h : a ^^^ b = a ^^^ c) : b = c := by
  have h2 := congrArg (a ^^^ ·) h
  simpa only [← Nat.xor_assoc, Nat.xor_self, Nat.zero_xor] using h2
theorem xor_eq_zero {a b : Nat} (h : a ^^^ b = 0) : a = b := by
  have h2 := congrArg (a ^^^ ·) h
  simp only [← Nat.xor_assoc, Nat.xor_self, Nat.zero_xor, Nat.xor_zero] at h2
  exact h2.symm
theorem halfN_inj (n : Nat) {a b : Nat} (ha : a < 4294967296) (hb : b < 4294967296) (h : halfN n a = halfN n b) : a = b := by
  apply xor_eq_zero
  refine halfN_inj0 n (Nat.xor_lt_two_pow (n := 32) ha hb) ?_
  rw [halfN_xor, h, Nat.xor_self]
theorem stepB_one (R : Nat) (x m : UInt8) : stepB R (x ^^^ m).toNat = stepB R x.toNat ^^^ halfN 8 m.toNat := by
  unfold stepB
  rw [UInt8.toNat_xor, ← Nat.xor_assoc, halfN_xor]
/-- A register that starts otherwise. -/
theorem reg_start (l : List UInt8) (r e : Nat) : reg (r ^^^ e) l = reg r l ^^^ halfN (8 * l.length) e := by
  rw [reg_num, reg_num, ← halfN_xor, Nat.xor_assoc, Nat.xor_assoc, Nat.xor_comm e]
/-- One byte that is changed. -/
theorem reg_set (l : List UInt8) (r i : Nat) (m : UInt8) (hi : i < l.length) : reg r (l.set i (l.getD i 0 ^^^ m)) = reg r l ^^^ halfN (8 * (l.length - i)) m.toNat := by
  induction l generalizing r i with
  | nil => simp at hi
  | cons c l ih =>
    cases i with
    | zero =>
      show reg (stepB r (c ^^^ m).toNat) l = reg (stepB r c.toNat) l ^^^ halfN (8 * (l.length + 1 - 0)) m.toNat
      rw [stepB_one, reg_start, ← halfN_add, show 8 + 8 * l.length = 8 * (l.length + 1 - 0) from by omega]
    | succ i =>
      have hi' : i < l.length := by simpa using hi
      show reg (stepB r c.toNat) (l.set i (l.getD i 0 ^^^ m)) = reg (stepB r c.toNat) l ^^^ halfN (8 * (l.length + 1 - (i + 1))) m.toNat
      rw [ih _ _ hi', show l.length + 1 - (i + 1) = l.length - i from by omega]
theorem le_num {x : Nat} (h : x < 4294967296) : num (le x) = x := by
  have hx : ∀ a b : Nat, a < 256 → a ^^^ 256 * b = a + 256 * b := fun a b ha => by
    have h2 := Nat.two_pow_add_eq_or_of_lt (b := a) (i := 8) ha b
    apply Nat.eq_of_testBit_eq
    intro i
    have h1 := Nat.testBit_two_pow_mul_add b (b := a) (i := 8) ha i
    have h3 := Nat.testBit_two_pow_mul (i := 8) (a := b) (j := i)
    rw [show (2 : Nat) ^ 8 = 256 from rfl] at h1 h3
    rw [Nat.testBit_xor, Nat.add_comm, h1, h3]
    by_cases hi : i < 8
    · rw [if_pos hi]; simp [Nat.not_le.2 hi]
    · rw [if_neg hi, Nat.testBit_lt_two_pow (x := a) (i := i) (Nat.lt_of_lt_of_le ha (by rw [show (256 : Nat) = 2 ^ 8 from rfl]; exact Nat.pow_le_pow_right (by decide) (by omega)))]
      simp [Nat.not_lt.1 hi]
  have hb : ∀ y : Nat, (UInt8.ofNat (y % 256)).toNat = y % 256 := fun y => by rw [UInt8.toNat_ofNat']; omega
  unfold le
  show (UInt8.ofNat (x % 256)).toNat ^^^ 256 * ((UInt8.ofNat (x / 256 % 256)).toNat ^^^ 256 * ((UInt8.ofNat (x / 65536 % 256)).toNat ^^^ 256 * ((UInt8.ofNat (x / 16777216 % 256)).toNat ^^^ 256 * 0))) = x
  rw [hb, hb, hb, hb, Nat.mul_zero, Nat.xor_zero, hx _ _ (by omega), hx _ _ (by omega), hx _ _ (by omega)]
  omega
theorem num_inj {a b : List UInt8} (hl : a.length = b.length) (h : num a = num b) : a = b := by
  have hx : num (xorL a b) = 0 := by
    have hz : ∀ a b : List UInt8, a.length = b.length → num (xorL a b) = num a ^^^ num b := by
      intro a
      induction a with
      | nil => intro b hb; cases b with
        | nil => rfl
        | cons _ _ => cases hb
      | cons x a ih =>
        intro b hb
        cases b with
        | nil => cases hb
        | cons y b =>
          show (x ^^^ y).toNat ^^^ 256 * num (xorL a b) = (x.toNat ^^^ 256 * num a) ^^^ (y.toNat ^^^ 256 * num b)
          rw [ih b (by simpa using hb), UInt8.toNat_xor, show (256 : Nat) = 2 ^ 8 from rfl, Nat.mul_comm (2 ^ 8) (num a ^^^ num b), Nat.mul_comm (2 ^ 8) (num a), Nat.mul_comm (2 ^ 8) (num b), ← Nat.shiftLeft_eq, ← Nat.shiftLeft_eq, ← Nat.shiftLeft_eq, Nat.shiftLeft_xor_distrib]
          simp only [Nat.xor_assoc]
          congr 1
          rw [← Nat.xor_assoc, ← Nat.xor_assoc, Nat.xor_comm y.toNat]
    rw [hz a b hl, h, Nat.xor_self]
  have h0 := num_zero hx
  clear hx h
  induction a generalizing b with
  | nil => cases b with
    | nil => rfl
    | cons _ _ => cases hl
  | cons x a ih =>
    cases b with
    | nil => cases hl
    | cons y b =>
      have h1 : x ^^^ y = 0 := h0 (x ^^^ y) (by show _ ∈ (x ^^^ y) :: xorL a b; simp)
      have h2 : x = y := by
        have := congrArg (x ^^^ ·) h1
        simp only [← UInt8.xor_assoc, UInt8.xor_self, UInt8.zero_xor, UInt8.xor_zero] at this
        exact this.symm
      rw [h2, ih (by simpa using hl) (fun c hc => h0 c (by show _ ∈ (x ^^^ y) :: xorL a b; simp [hc]))]
/-- Sealed bytes leave one register. -/
theorem sealed_iff (l : List UInt8) (h4 : 4 ≤ l.length) : sealed l = true ↔ reg 4294967295 l = halfN 32 4294967295 := by
  have hs : l = l.take (l.length - 4) ++ l.drop (l.length - 4) := (List.take_append_drop _ _).symm
  have hd : (l.drop (l.length - 4)).length = 4 := by rw [List.length_drop]; omega
  have hR := reg_lt (l.take (l.length - 4)) (r := 4294967295) (by omega)
  have hn : num (l.drop (l.length - 4)) < 4294967296 := by have := num_lt (l.drop (l.length - 4)); rw [hd] at this; simpa using this
  have hsum : sum (l.take (l.length - 4)) = reg 4294967295 (l.take (l.length - 4)) ^^^ 4294967295 := by
    unfold sum more
    rw [Nat.sub_zero]
    exact not_xor hR
  have e1 : sealed l = true ↔ l.drop (l.length - 4) = le (sum (l.take (l.length - 4))) := by
    unfold sealed seal_
    simp only [h4, decide_true, Bool.true_and, beq_iff_eq]
    constructor
    · intro h
      have h2 : l.take (l.length - 4) ++ le (sum (l.take (l.length - 4))) = l.take (l.length - 4) ++ l.drop (l.length - 4) := by rw [← hs]; exact h
      exact (List.append_cancel_left h2).symm
    · intro h
      rw [← h]
      exact hs.symm
  rw [e1]
  have e2 : reg 4294967295 l = halfN 32 (reg 4294967295 (l.take (l.length - 4)) ^^^ num (l.drop (l.length - 4))) := by
    conv => lhs; rw [hs, reg_append, reg_num, hd]
  rw [e2]
  constructor
  · intro h
    rw [h, le_num (sum_lt _), hsum, ← Nat.xor_assoc, Nat.xor_self, Nat.zero_xor]
  · intro h
    have h2 := halfN_inj 32 (Nat.xor_lt_two_pow (n := 32) hR hn) (by omega) h
    apply num_inj
    · rw [hd]; rfl
    · rw [le_num (sum_lt _), hsum]
      generalize reg 4294967295 (l.take (l.length - 4)) = R at h2 ⊢
      rw [← h2, ← Nat.xor_assoc, Nat.xor_self, Nat.zero_xor]

/-- Bytes changed from a place on, and whether any is. -/
def burst (p : Nat) (ms s : List UInt8) : Nat → List UInt8 × Bool
  | 0 => (s, false)
  | k + 1 => if p + k < s.length ∧ ms.getD k 0 ≠ 0 then ((burst p ms s k).1.set (p + k) ((burst p ms s k).1.getD (p + k) 0 ^^^ ms.getD k 0), true) else burst p ms s k
theorem burst_len (p : Nat) (ms s : List UInt8) (k : Nat) : (burst p ms s k).1.length = s.length := by
  induction k with
  | zero => rfl
  | succ k ih => unfold burst; split <;> simp [ih]
theorem xor_small {a b m k : Nat} (ha : a < 256 ^ k) (hm : m < 256) (hb : b = a ^^^ (256 ^ k * m)) : b < 256 ^ (k + 1) ∧ (b = 0 → a = 0 ∧ m = 0) := by
  have e1 : (256 : Nat) ^ (k + 1) = 2 ^ (8 * (k + 1)) := by rw [show (256 : Nat) = 2 ^ 8 from rfl, ← Nat.pow_mul]
  have hp : 1 ≤ 256 ^ k := Nat.pow_pos (by decide)
  have hmul : 256 ^ k * m ≤ 256 ^ k * 255 := Nat.mul_le_mul_left _ (by omega)
  constructor
  · rw [hb, e1]
    refine Nat.xor_lt_two_pow ?_ ?_
    · rw [← e1, Nat.pow_succ]; omega
    · rw [← e1, Nat.pow_succ]; omega
  · intro h
    rw [hb] at h
    have h2 := xor_eq_zero h
    have hm0 : m = 0 := by
      rcases Nat.eq_zero_or_pos m with h | h
      · exact h
      · have := Nat.mul_le_mul_left (256 ^ k) h
        omega
    subst hm0
    exact ⟨by omega, rfl⟩
theorem burst_reg (p : Nat) (ms s : List UInt8) (k : Nat) : ∃ x, x < 256 ^ k ∧ reg 4294967295 (burst p ms s k).1 = reg 4294967295 s ^^^ halfN (8 * (s.length - p)) x ∧ ((burst p ms s k).2 = false ↔ x = 0) := by
  induction k with
  | zero => exact ⟨0, by simp, by show _ = _ ^^^ _; rw [halfN_zero, Nat.xor_zero]; rfl, by simp [burst]⟩
  | succ k ih =>
    obtain ⟨x, hx, hr, hc⟩ := ih
    unfold burst
    split
    · rename_i h
      obtain ⟨h1, h2⟩ := h
      have hm := u8_lt (ms.getD k 0)
      obtain ⟨h3, h4⟩ := xor_small hx hm rfl
      refine ⟨_, h3, ?_, ?_⟩
      · show reg _ (List.set _ _ _) = _
        rw [reg_set _ _ _ _ (by rw [burst_len]; exact h1), hr, burst_len, halfN_xor, Nat.xor_assoc]
        congr 1; congr 1
        have e : (256 : Nat) ^ k = 2 ^ (8 * k) := by rw [show (256 : Nat) = 2 ^ 8 from rfl, ← Nat.pow_mul]
        rw [show 8 * (s.length - p) = 8 * k + 8 * (s.length - (p + k)) from by omega, halfN_add, e, halfN_pow]
      · constructor
        · intro h; cases h
        · intro h
          exact (h2 (UInt8.toNat_inj.1 (show (ms.getD k 0).toNat = (0 : UInt8).toNat from (h4 h).2))).elim
    · exact ⟨x, Nat.lt_of_lt_of_le hx (Nat.pow_le_pow_right (by decide) (by omega)), hr, hc⟩
/-- Up to four bytes in a row are told. -/
theorem burst_told (p : Nat) (ms l : List UInt8) : sealed (burst p ms (seal_ l) 4).1 = !(burst p ms (seal_ l) 4).2 := by
  obtain ⟨x, hx, hr, hc⟩ := burst_reg p ms (seal_ l) 4
  have hl : (seal_ l).length = l.length + 4 := by simp [seal_, le]
  have h4 : 4 ≤ (burst p ms (seal_ l) 4).1.length := by rw [burst_len]; omega
  have hs : sealed (seal_ l) = true := by
    unfold sealed
    rw [hl]
    simp [seal_]
  have h1 := (sealed_iff (seal_ l) (by omega)).1 hs
  rw [h1] at hr
  have key : sealed (burst p ms (seal_ l) 4).1 = true ↔ x = 0 := by
    rw [sealed_iff _ h4, hr]
    constructor
    · intro h
      have h2 : halfN 32 4294967295 ^^^ halfN (8 * ((seal_ l).length - p)) x = halfN 32 4294967295 ^^^ 0 := by rw [h, Nat.xor_zero]
      exact halfN_inj0 _ (by simpa using hx) (xor_left_inj h2)
    · intro h
      rw [h, halfN_zero, Nat.xor_zero]
  rcases hb : (burst p ms (seal_ l) 4).2 with _ | _
  · simpa using key.2 (hc.1 hb)
  · rcases hb2 : sealed (burst p ms (seal_ l) 4).1 with _ | _
    · rfl
    · rw [hc.2 (key.1 hb2)] at hb; cases hb
end Crc
end Go.Proofs.Ytponmokiogdejaa
