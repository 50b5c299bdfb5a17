/- Keys, as lists of bytes: nothing of the program is read here. -/
import Derived.Lib.ValidU
import Derived.Lib.Strings
namespace Go.Proofs.YtddncmbibkibeaaDoor.Keys
open Go.Lib (validD hasPrefix)

def may (l : List UInt8) : Nat := if l = [] then 8 else if 64 < l.length then 6 else if validD l = true then 0 else 3
/-- So much is left, when all 255s at the end are gone. -/
def cut (l : List UInt8) : Nat → Nat
  | 0 => 0
  | n + 1 => if l.getD n 0 = 255 then cut l n else n + 1
def endN (l : List UInt8) : Nat := cut l l.length
def endL (l : List UInt8) : List UInt8 × Bool := if endN l = 0 then ([], false) else (l.take (endN l - 1) ++ [l.getD (endN l - 1) 0 + 1], true)
def turn (k f t : List UInt8) : List UInt8 × Nat :=
  if hasPrefix k f = true then (if may (t ++ k.drop f.length) = 0 then (t ++ k.drop f.length, 0) else ([], may (t ++ k.drop f.length))) else ([], 12)
def within (k lo hi : List UInt8) (op : Bool) : Bool := !(Op.bytesLess k lo) && (op || Op.bytesLess k hi)

theorem cut_le (l : List UInt8) (n : Nat) : cut l n ≤ n := by
  induction n with
  | zero => exact Nat.le_refl _
  | succ n ih => unfold cut; split <;> omega
theorem cut_zero (l : List UInt8) : cut l 0 = 0 := rfl
theorem cut_hit {l : List UInt8} {n : Nat} (h : l.getD n 0 = 255) : cut l (n + 1) = cut l n := by rw [cut, if_pos h]
theorem cut_miss {l : List UInt8} {n : Nat} (h : l.getD n 0 ≠ 255) : cut l (n + 1) = n + 1 := by rw [cut, if_neg h]
theorem endL_none {l : List UInt8} (h : endN l = 0) : endL l = ([], false) := by rw [endL, if_pos h]
theorem endL_some {l : List UInt8} {j : Nat} (h : endN l = j + 1) : endL l = (l.take j ++ [l.getD j 0 + 1], true) := by rw [endL, if_neg (by omega), h]; rfl

/-! ### the end, from the front -/
theorem cut_cons (c : UInt8) (l : List UInt8) (n : Nat) : cut (c :: l) (n + 1) = if cut l n = 0 then (if c = 255 then 0 else 1) else cut l n + 1 := by
  induction n with
  | zero =>
    rw [cut]
    simp [cut]
  | succ n ih =>
    rw [cut]
    show (if l.getD n 0 = 255 then cut (c :: l) (n + 1) else n + 1 + 1) = _
    by_cases h : l.getD n 0 = 255
    · rw [if_pos h, ih, cut_hit h]
    · rw [if_neg h, cut_miss h]
      simp
theorem endL_nil : endL [] = ([], false) := rfl
theorem endL_cons (c : UInt8) (l : List UInt8) : endL (c :: l) = if (endL l).2 = true then (c :: (endL l).1, true) else if c = 255 then ([], false) else ([c + 1], true) := by
  have h : endN (c :: l) = if endN l = 0 then (if c = 255 then 0 else 1) else endN l + 1 := cut_cons c l l.length
  by_cases h0 : endN l = 0
  · rw [endL_none h0]
    rw [if_pos h0] at h
    by_cases hc : c = 255
    · rw [if_pos hc] at h
      rw [endL_none h, if_neg (by simp), if_pos hc]
    · rw [if_neg hc] at h
      rw [endL_some h, if_neg (by simp), if_neg hc]
      rfl
  · obtain ⟨j, hj⟩ : ∃ j, endN l = j + 1 := ⟨endN l - 1, by omega⟩
    rw [if_neg h0, hj] at h
    rw [endL_some h, endL_some hj, if_pos rfl]
    simp [List.take_succ_cons]
theorem less_cons (a b : UInt8) (x y : List UInt8) : Op.bytesLess (a :: x) (b :: y) = (decide (a < b) || (a == b && Op.bytesLess x y)) := by rw [Op.bytesLess]
theorem less_nil (x : List UInt8) : Op.bytesLess x [] = false := by cases x <;> rw [Op.bytesLess]
theorem nil_less (b : UInt8) (y : List UInt8) : Op.bytesLess [] (b :: y) = true := by rw [Op.bytesLess]
theorem u8_lt_max (a : UInt8) : (decide (a < 255) : Bool) = !(a == 255) := by
  have := a.toNat_lt
  rw [Bool.eq_iff_iff]
  simp only [decide_eq_true_eq, Bool.not_eq_true', beq_eq_false_iff_ne, ne_eq, UInt8.lt_iff_toNat_lt, ← UInt8.toNat_inj]
  have e : (255 : UInt8).toNat = 255 := rfl
  rw [e]
  omega
/-- What begins with p is the interval from p to p's end. -/
theorem prefix_within (p k : List UInt8) : within k p (endL p).1 (!(endL p).2) = hasPrefix k p := by
  unfold within hasPrefix
  induction p generalizing k with
  | nil => rw [endL_nil, less_nil]; rfl
  | cons c p ih =>
    cases k with
    | nil => rw [nil_less]; rfl
    | cons d k =>
      have h := ih k
      rw [endL_cons, less_cons]
      show _ = (c == d && p.isPrefixOf k)
      have hlt : d < c ∨ d = c ∨ c < d := by
        simp only [UInt8.lt_iff_toNat_lt, ← UInt8.toNat_inj]
        omega
      have n1 : ∀ {a b : UInt8}, a < b → ¬ b < a := fun h1 h2 => by simp only [UInt8.lt_iff_toNat_lt] at h1 h2; omega
      have n2 : ∀ {a b : UInt8}, a < b → a ≠ b := fun h1 h2 => by subst h2; simp only [UInt8.lt_iff_toNat_lt] at h1; omega
      rcases hlt with hd | hd | hd
      · rw [decide_eq_true hd, show (c == d) = false by rw [beq_eq_false_iff_ne]; exact (n2 hd).symm]
        simp
      · subst hd
        have hself : (decide (d < d) : Bool) = false := by simp
        rw [hself, beq_self_eq_true, Bool.false_or, Bool.true_and, Bool.true_and]
        by_cases he : (endL p).2 = true
        · rw [if_pos he]
          rw [he] at h
          simp only [Bool.not_true, Bool.false_or] at h ⊢
          rw [less_cons, hself, beq_self_eq_true, Bool.false_or, Bool.true_and]
          exact h
        · rw [if_neg he]
          have he' : (endL p).2 = false := by simpa using he
          rw [he'] at h
          simp only [Bool.not_false, Bool.true_or, Bool.and_true] at h
          by_cases hc : d = 255
          · rw [if_pos hc]
            simp only [Bool.not_false, Bool.true_or, Bool.and_true]
            exact h
          · rw [if_neg hc]
            have : (decide (d < d + 1) : Bool) = true := by
              rw [decide_eq_true_eq, UInt8.lt_iff_toNat_lt, UInt8.toNat_add]
              have h1 := d.toNat_lt
              have h2 : d.toNat ≠ 255 := fun e => hc (UInt8.toNat_inj.1 (by rw [e]; rfl))
              have e : (1 : UInt8).toNat = 1 := rfl
              rw [e]
              omega
            rw [less_cons, this]
            simp only [Bool.not_true, Bool.false_or, Bool.true_or, Bool.and_true]
            exact h
      · rw [decide_eq_false (n1 hd), show (d == c) = false by rw [beq_eq_false_iff_ne]; exact (n2 hd).symm, show (c == d) = false by rw [beq_eq_false_iff_ne]; exact n2 hd]
        simp only [Bool.false_or, Bool.false_and, Bool.not_false, Bool.true_and]
        by_cases he : (endL p).2 = true
        · rw [if_pos he]
          simp only [Bool.not_true, Bool.false_or]
          rw [less_cons, decide_eq_false (n1 hd), show (d == c) = false by rw [beq_eq_false_iff_ne]; exact (n2 hd).symm]
          rfl
        · rw [if_neg he]
          have hc : c ≠ 255 := fun e => by
            subst e
            have := d.toNat_lt
            rw [UInt8.lt_iff_toNat_lt] at hd
            have e : (255 : UInt8).toNat = 255 := rfl
            rw [e] at hd
            omega
          rw [if_neg hc]
          simp only [Bool.not_true, Bool.false_or]
          rw [less_cons, less_nil, Bool.and_false, Bool.or_false]
          rw [decide_eq_false_iff_not, UInt8.lt_iff_toNat_lt, UInt8.toNat_add]
          rw [UInt8.lt_iff_toNat_lt] at hd
          have e : (1 : UInt8).toNat = 1 := rfl
          have h1 := d.toNat_lt
          rw [e]
          omega
theorem less_irrefl (l : List UInt8) : Op.bytesLess l l = false := by
  induction l with
  | nil => rfl
  | cons c l ih =>
    rw [less_cons, ih]
    simp
theorem less_same (a b t : List UInt8) : Op.bytesLess (t ++ a) (t ++ b) = Op.bytesLess a b := by
  induction t with
  | nil => rfl
  | cons c t ih =>
    show Op.bytesLess (c :: (t ++ a)) (c :: (t ++ b)) = _
    rw [less_cons, ih]
    simp
theorem prefix_append (p r : List UInt8) : hasPrefix (p ++ r) p = true := by
  unfold hasPrefix
  rw [List.isPrefixOf_iff_prefix]
  exact List.prefix_append _ _
/-- If there is no end, all are 255. -/
theorem end_none (p : List UInt8) (h : (endL p).2 = false) : ∀ i, i < p.length → p.getD i 0 = 255 := by
  induction p with
  | nil => intro i hi; simp at hi
  | cons c p ih =>
    rw [endL_cons] at h
    have he : (endL p).2 = false := by
      cases h2 : (endL p).2 with
      | false => rfl
      | true => rw [if_pos h2] at h; cases h
    rw [if_neg (by rw [he]; simp)] at h
    have hc : c = 255 := by
      by_cases hc : c = 255
      · exact hc
      · rw [if_neg hc] at h; cases h
    intro i hi
    cases i with
    | zero => exact hc
    | succ i => exact ih he i (by simpa using hi)
theorem end_none_nil (p : List UInt8) (h : (endL p).2 = false) : (endL p).1 = [] := by
  unfold endL at h ⊢
  split at h
  · rename_i h0; rw [if_pos h0]
  · cases h
theorem turn_append (f t a : List UInt8) : turn (f ++ a) f t = if may (t ++ a) = 0 then (t ++ a, 0) else ([], may (t ++ a)) := by
  unfold turn
  rw [if_pos (prefix_append f a), List.drop_left]
end Go.Proofs.YtddncmbibkibeaaDoor.Keys
