/- The sums, as plain numbers: a register that is halved bit by bit. Nothing of the program is read here. -/
namespace Go.Proofs.Ytponmokiogdejaa.Crc

def poly : Nat := 3988292384
/-- A register behind one bit 0. -/
def half (r : Nat) : Nat := if r % 2 = 1 then (r / 2) ^^^ 3988292384 else r / 2
/-- A register behind one bit. -/
def bit (r b : Nat) : Nat := if r % 2 = b then r / 2 else (r / 2) ^^^ 3988292384
def halfN : Nat → Nat → Nat
  | 0, r => r
  | n + 1, r => halfN n (half r)
/-- A register behind a byte. -/
def stepB (r c : Nat) : Nat := halfN 8 (r ^^^ c)
def reg (r : Nat) (l : List UInt8) : Nat := l.foldl (fun r c => stepB r c.toNat) r
def more (s : Nat) (l : List UInt8) : Nat := 4294967295 - reg (4294967295 - s) l
def sum (l : List UInt8) : Nat := more 0 l
/-- A number's four bytes, the lowest first. -/
def le (s : Nat) : List UInt8 := [UInt8.ofNat (s % 256), UInt8.ofNat (s / 256 % 256), UInt8.ofNat (s / 65536 % 256), UInt8.ofNat (s / 16777216 % 256)]
def seal_ (l : List UInt8) : List UInt8 := l ++ le (sum l)
def sealed (l : List UInt8) : Bool := decide (4 ≤ l.length) && (seal_ (l.take (l.length - 4)) == l)

theorem halfN_succ (n r : Nat) : halfN (n + 1) r = half (halfN n r) := by
  induction n generalizing r with
  | zero => rfl
  | succ n ih => exact ih (half r)
theorem halfN_add (m n r : Nat) : halfN (m + n) r = halfN n (halfN m r) := by
  induction m generalizing r with
  | zero => rw [Nat.zero_add]; rfl
  | succ m ih => rw [show m + 1 + n = (m + n) + 1 from by omega]; exact ih (half r)

theorem xor_mod2 (a b : Nat) : (a ^^^ b) % 2 = (a % 2 + b % 2) % 2 := by
  have h := Nat.xor_mod_two_pow (a := a) (b := b) (n := 1)
  simp only [Nat.pow_one] at h
  rw [h]
  rcases Nat.mod_two_eq_zero_or_one a with ha | ha <;> rcases Nat.mod_two_eq_zero_or_one b with hb | hb <;> rw [ha, hb] <;> rfl
theorem half_xor (a b : Nat) : half (a ^^^ b) = half a ^^^ half b := by
  have h2 := xor_mod2 a b
  have hd : (a ^^^ b) / 2 = a / 2 ^^^ b / 2 := by simpa using Nat.xor_div_two_pow (a := a) (b := b) (n := 1)
  have hx : ∀ x y z : Nat, (x ^^^ z) ^^^ (y ^^^ z) = x ^^^ y := fun x y z => by
    rw [Nat.xor_comm y z, Nat.xor_assoc, ← Nat.xor_assoc z z y, Nat.xor_self, Nat.zero_xor]
  unfold half
  rcases Nat.mod_two_eq_zero_or_one a with ha | ha <;> rcases Nat.mod_two_eq_zero_or_one b with hb | hb
  · rw [if_neg (by omega), if_neg (by omega), if_neg (by omega), hd]
  · rw [if_pos (by omega), if_neg (by omega), if_pos (by omega), hd, Nat.xor_assoc]
  · rw [if_pos (by omega), if_pos (by omega), if_neg (by omega), hd, Nat.xor_assoc, Nat.xor_assoc, Nat.xor_comm (b / 2)]
  · rw [if_neg (by omega), if_pos (by omega), if_pos (by omega), hd, hx]
theorem halfN_xor (n a b : Nat) : halfN n (a ^^^ b) = halfN n a ^^^ halfN n b := by
  induction n generalizing a b with
  | zero => rfl
  | succ n ih => show halfN n (half (a ^^^ b)) = _; rw [half_xor, ih]; rfl
theorem half_double (x : Nat) : half (2 * x) = x := by
  unfold half
  rw [if_neg (by omega)]
  omega
theorem halfN_pow (n x : Nat) : halfN n (2 ^ n * x) = x := by
  induction n generalizing x with
  | zero => simp [halfN]
  | succ n ih =>
    show halfN n (half (2 ^ (n + 1) * x)) = x
    rw [show 2 ^ (n + 1) * x = 2 * (2 ^ n * x) from by rw [Nat.pow_succ]; rw [Nat.mul_comm (2 ^ n) 2, Nat.mul_assoc], half_double, ih]
theorem half_zero : half 0 = 0 := rfl
theorem halfN_zero (n : Nat) : halfN n 0 = 0 := by
  induction n with
  | zero => rfl
  | succ n ih => exact ih
theorem half_lt {r : Nat} (h : r < 4294967296) : half r < 4294967296 := by
  unfold half
  split
  · exact Nat.xor_lt_two_pow (n := 32) (by omega) (by omega)
  · omega
theorem halfN_lt (n : Nat) {r : Nat} (h : r < 4294967296) : halfN n r < 4294967296 := by
  induction n generalizing r with
  | zero => exact h
  | succ n ih => exact ih (half_lt h)
theorem u8_lt (c : UInt8) : c.toNat < 256 := c.toNat_lt
theorem stepB_lt {r : Nat} (c : UInt8) (h : r < 4294967296) : stepB r c.toNat < 4294967296 :=
  halfN_lt 8 (Nat.xor_lt_two_pow (n := 32) (by omega) (by have := u8_lt c; omega))
theorem reg_lt (l : List UInt8) {r : Nat} (h : r < 4294967296) : reg r l < 4294967296 := by
  induction l generalizing r with
  | nil => exact h
  | cons c l ih => exact ih (stepB_lt c h)
theorem reg_snoc (r : Nat) (l : List UInt8) (c : UInt8) : reg r (l ++ [c]) = stepB (reg r l) c.toNat := by simp [reg]
theorem reg_append (r : Nat) (l m : List UInt8) : reg r (l ++ m) = reg (reg r l) m := by simp [reg]
theorem more_lt (s : Nat) (l : List UInt8) : more s l < 4294967296 := by unfold more; omega
theorem sum_lt (l : List UInt8) : sum l < 4294967296 := more_lt 0 l

/-! the reference, bit by bit -/
theorem bit_half {r b : Nat} (hb : b < 2) : bit r b = half (r ^^^ b) := by
  unfold bit half
  have h2 := xor_mod2 r b
  have hd : (r ^^^ b) / 2 = r / 2 := by
    have := Nat.xor_div_two_pow (a := r) (b := b) (n := 1)
    simp only [Nat.pow_one] at this
    rw [this, show b / 2 = 0 from by omega, Nat.xor_zero]
  rcases Nat.mod_two_eq_zero_or_one r with hr | hr <;> rcases (show b = 0 ∨ b = 1 from by omega) with rfl | rfl
  · rw [if_pos hr, if_neg (by omega), hd]
  · rw [if_neg (by omega), if_pos (by omega), hd]
  · rw [if_neg (by omega), if_pos (by omega), hd]
  · rw [if_pos hr, if_neg (by omega), hd]
theorem xor_low (c : Nat) : (c % 2) ^^^ (2 * (c / 2)) = c := by
  have h1 := Nat.two_pow_add_eq_or_of_lt (b := c % 2) (i := 1) (by omega) (c / 2)
  have h2 : c % 2 ^^^ 2 * (c / 2) = 2 * (c / 2) + c % 2 := by
    apply Nat.eq_of_testBit_eq
    intro i
    rw [Nat.testBit_xor]
    rw [show 2 * (c / 2) + c % 2 = c from by omega]
    rcases i with _ | i
    · rw [Nat.testBit_zero, Nat.testBit_zero, Nat.testBit_zero]
      rcases Nat.mod_two_eq_zero_or_one c with h | h <;> simp [h]
    · rw [Nat.testBit_succ, Nat.testBit_succ, Nat.testBit_succ, show c % 2 / 2 = 0 from by omega, show 2 * (c / 2) / 2 = c / 2 from by omega]
      simp
  omega
theorem bit_step (r c : Nat) : bit r (c % 2) ^^^ (c / 2) = half (r ^^^ c) := by
  rw [bit_half (by omega)]
  conv => rhs; rw [← xor_low c, ← Nat.xor_assoc, half_xor, half_double]
/-- The reference's register and byte behind k bits. -/
def refR : Nat → Nat → Nat → Nat
  | 0, r, _ => r
  | k + 1, r, c => refR k (bit r (c % 2)) (c / 2)
theorem refR_succ (k r c : Nat) : refR (k + 1) r c = bit (refR k r c) (c / 2 ^ k % 2) := by
  induction k generalizing r c with
  | zero => simp [refR]
  | succ k ih =>
    show refR (k + 1) (bit r (c % 2)) (c / 2) = _
    rw [ih]
    show bit (refR k (bit r (c % 2)) (c / 2)) _ = bit (refR k (bit r (c % 2)) (c / 2)) _
    rw [Nat.div_div_eq_div_mul, Nat.pow_succ, Nat.mul_comm 2]
theorem refR_half (k r c : Nat) : refR k r c ^^^ (c / 2 ^ k) = halfN k (r ^^^ c) := by
  induction k generalizing r c with
  | zero => simp [refR, halfN]
  | succ k ih =>
    have h := ih (bit r (c % 2)) (c / 2)
    rw [bit_step] at h
    rw [Nat.div_div_eq_div_mul, Nat.mul_comm 2, ← Nat.pow_succ] at h
    exact h
theorem refR_byte (r : Nat) (c : UInt8) : refR 8 r c.toNat = stepB r c.toNat := by
  have h := refR_half 8 r c.toNat
  have := u8_lt c
  rw [show c.toNat / 2 ^ 8 = 0 from by omega, Nat.xor_zero] at h
  exact h
theorem bit_lt {r b : Nat} (h : r < 4294967296) : bit r b < 4294967296 := by
  unfold bit
  split
  · omega
  · exact Nat.xor_lt_two_pow (n := 32) (by omega) (by omega)
theorem refR_lt (k : Nat) {r c : Nat} (h : r < 4294967296) : refR k r c < 4294967296 := by
  induction k generalizing r c with
  | zero => exact h
  | succ k ih => exact ih (bit_lt h)

/-! four bits at once -/
def tab (i : Nat) : Nat := halfN 4 i
theorem nibble (r : Nat) : halfN 4 r = (r / 16) ^^^ tab (r % 16) := by
  have hr : r = (16 * (r / 16)) ^^^ (r % 16) := by
    apply Nat.eq_of_testBit_eq
    intro i
    rw [Nat.testBit_xor]
    have h := Nat.testBit_two_pow_mul_add (r / 16) (b := r % 16) (i := 4) (by omega) i
    have h' := Nat.testBit_two_pow_mul (i := 4) (a := r / 16) (j := i)
    rw [show 2 ^ 4 * (r / 16) + r % 16 = r from by omega] at h
    rw [show (16 : Nat) = 2 ^ 4 from rfl, h', h]
    by_cases hi : i < 4
    · rw [if_pos hi]; simp [Nat.not_le.2 hi]
    · rw [if_neg hi, Nat.testBit_lt_two_pow (x := r % 2 ^ 4) (i := i) (Nat.lt_of_lt_of_le (Nat.mod_lt _ (by decide)) (Nat.pow_le_pow_right (by decide) (by omega)))]
      simp [Nat.not_lt.1 hi]
  conv => lhs; rw [hr, halfN_xor]
  rw [show 16 * (r / 16) = 2 ^ 4 * (r / 16) from rfl, halfN_pow]
  rfl
theorem two_nibbles (r c : Nat) : stepB r c = halfN 4 (halfN 4 (r ^^^ c)) := halfN_add 4 4 _

/-! what is linear -/
theorem not_xor {x : Nat} (h : x < 4294967296) : 4294967295 - x = x ^^^ 4294967295 := by
  have hm : x % 2 ^ 32 = x := Nat.mod_eq_of_lt h
  have h1 : (~~~(BitVec.ofNat 32 x)).toNat = 4294967295 - x := by rw [BitVec.toNat_not, BitVec.toNat_ofNat, hm]
  have h2 : (~~~(BitVec.ofNat 32 x)).toNat = x ^^^ 4294967295 := by rw [← BitVec.xor_allOnes, BitVec.toNat_xor, BitVec.toNat_ofNat, BitVec.toNat_allOnes, hm]
  rw [← h1, h2]
theorem stepB_xor (a b c d : Nat) : stepB (a ^^^ b) (c ^^^ d) = stepB a c ^^^ stepB b d := by
  unfold stepB
  rw [← halfN_xor]
  congr 1
  rw [Nat.xor_assoc, Nat.xor_assoc, ← Nat.xor_assoc b c d, Nat.xor_comm b c, Nat.xor_assoc]
def xorL (a b : List UInt8) : List UInt8 := List.zipWith (· ^^^ ·) a b
theorem reg_xor (a b : List UInt8) (h : a.length = b.length) (r s : Nat) : reg (r ^^^ s) (xorL a b) = reg r a ^^^ reg s b := by
  induction a generalizing b r s with
  | nil =>
    cases b with
    | nil => rfl
    | cons _ _ => cases h
  | cons x a ih =>
    cases b with
    | nil => cases h
    | cons y b =>
      have hl : a.length = b.length := by simpa using h
      show reg (stepB (r ^^^ s) (x ^^^ y).toNat) (xorL a b) = reg (stepB r x.toNat) a ^^^ reg (stepB s y.toNat) b
      rw [UInt8.toNat_xor, stepB_xor, ih b hl]

/-! bursts -/
def num : List UInt8 → Nat
  | [] => 0
  | c :: l => c.toNat ^^^ (256 * num l)
theorem reg_num (l : List UInt8) (r : Nat) : reg r l = halfN (8 * l.length) (r ^^^ num l) := by
  induction l generalizing r with
  | nil => show r = r ^^^ 0; rw [Nat.xor_zero]
  | cons c l ih =>
    show reg (stepB r c.toNat) l = halfN (8 * (l.length + 1)) (r ^^^ (c.toNat ^^^ 256 * num l))
    rw [ih, show 8 * (l.length + 1) = 8 + 8 * l.length from by omega, halfN_add, ← Nat.xor_assoc, halfN_xor 8 (r ^^^ c.toNat), show 256 * num l = 2 ^ 8 * num l from rfl, halfN_pow]
    rfl
theorem half_inj0 {r : Nat} (h : r < 4294967296) (e : half r = 0) : r = 0 := by
  unfold half at e
  split at e
  · have : (r / 2 ^^^ 3988292384).testBit 31 = false := by rw [e]; simp
    have hb : Nat.testBit 3988292384 31 = true := by decide +kernel
    rw [Nat.testBit_xor, Nat.testBit_lt_two_pow (x := r / 2) (i := 31) (by omega), hb] at this
    cases this
  · omega
theorem halfN_inj0 (n : Nat) {r : Nat} (h : r < 4294967296) (e : halfN n r = 0) : r = 0 := by
  induction n generalizing r with
  | zero => exact e
  | succ n ih => exact half_inj0 h (ih (half_lt h) e)
theorem num_lt (l : List UInt8) : num l < 256 ^ l.length := by
  induction l with
  | nil => simp [num]
  | cons c l ih =>
    show c.toNat ^^^ 256 * num l < 256 ^ (l.length + 1)
    have h1 : (256 : Nat) ^ (l.length + 1) = 2 ^ (8 * (l.length + 1)) := by rw [show (256 : Nat) = 2 ^ 8 from rfl, ← Nat.pow_mul]
    have hc := u8_lt c
    have hp : 1 ≤ 256 ^ l.length := Nat.pow_pos (by decide)
    rw [h1]
    refine Nat.xor_lt_two_pow ?_ ?_
    · rw [← h1, Nat.pow_succ]; omega
    · rw [← h1, Nat.pow_succ]; omega
theorem num_zero {l : List UInt8} (h : num l = 0) : ∀ c ∈ l, c = 0 := by
  induction l with
  | nil => intro c hc; cases hc
  | cons c l ih =>
    have h' : c.toNat = 256 * num l := by
      have hh : c.toNat ^^^ 256 * num l = 0 := h
      have h2 := congrArg (c.toNat ^^^ ·) hh
      simp only [← Nat.xor_assoc, Nat.xor_self, Nat.zero_xor, Nat.xor_zero] at h2
      exact h2.symm
    have := u8_lt c
    have h0 : num l = 0 := by omega
    have hc0 : c.toNat = 0 := by omega
    intro d hd
    rcases List.mem_cons.1 hd with rfl | hd
    · exact UInt8.toNat_inj.1 hc0
    · exact ih h0 d hd
end Go.Proofs.Ytponmokiogdejaa.Crc
