/- Runes of bytes, as plain functions over lists: nothing of the program is read here. -/
import Derived.Lib.ValidLaws
import Derived.Lib.DecodeNEq
namespace Go.Proofs.YtgeefnmgejnemaaDoor.Utf
open Go.Lib

/-- The rune with which bytes begin, and how many bytes it has; (0, 0) if none does. -/
def at1 (l : List UInt8) : Nat × Nat := if l = [] ∨ decodeL l = (65533, 1) then (0, 0) else decodeL l

theorem at1_nil : at1 [] = (0, 0) := by simp [at1]
theorem at1_bad {l : List UInt8} (h : decodeL l = (65533, 1)) : at1 l = (0, 0) := by simp [at1, h]
theorem at1_good {l : List UInt8} (h0 : l ≠ []) {r n : Nat} (h : decodeL l = (r, n)) (hb : (r, n) ≠ (65533, 1)) : at1 l = (r, n) := by
  simp [at1, h0, h]
  intro e1 e2
  exact absurd (by rw [e1, e2]) hb
theorem getD_drop (l : List UInt8) (k i : Nat) : (l.drop k).getD i 0 = l.getD (k + i) 0 := by simp [List.getD]
theorem decode_drop (l : List UInt8) (k : Nat) : decodeL (l.drop k) = decodeN (l.length - k) (l.getD k 0).toNat (l.getD (k + 1) 0).toNat (l.getD (k + 2) 0).toNat (l.getD (k + 3) 0).toNat := by
  rw [decodeL_N, List.length_drop, getD_drop, getD_drop, getD_drop, getD_drop, Nat.add_zero]

/-- What the reference's loop has gathered behind so many bytes. -/
def acc (a : Nat) (d : Nat → Nat) : Nat → Nat
  | 0 => a
  | j + 1 => 64 * acc a d j + (d (j + 1) - 128)
theorem acc_succ (a : Nat) (d : Nat → Nat) (j : Nat) : acc a d (j + 1) = 64 * acc a d j + (d (j + 1) - 128) := rfl
theorem acc1 (a : Nat) (d : Nat → Nat) : acc a d 1 = 64 * a + (d 1 - 128) := acc_succ a d 0
theorem acc2 (a : Nat) (d : Nat → Nat) : acc a d 2 = 64 * (64 * a + (d 1 - 128)) + (d 2 - 128) := by rw [acc_succ, acc1]
theorem acc3 (a : Nat) (d : Nat → Nat) : acc a d 3 = 64 * (64 * (64 * a + (d 1 - 128)) + (d 2 - 128)) + (d 3 - 128) := by rw [acc_succ, acc2]
theorem acc_lt (a : Nat) (d : Nat → Nat) (ha : a < 32) (j : Nat) (hj : ∀ i, 1 ≤ i → i ≤ j → d i < 192) : acc a d j < 32 * 64 ^ j := by
  induction j with
  | zero => rw [Nat.pow_zero, Nat.mul_one]; exact ha
  | succ j ih =>
    have h1 := ih (fun i h1 h2 => hj i h1 (Nat.le_succ_of_le h2))
    have h2 := hj (j + 1) (by omega) (Nat.le_refl _)
    rw [acc_succ, Nat.pow_succ]
    generalize 64 ^ j = X at h1 ⊢
    generalize acc a d j = Y at h1 ⊢
    generalize d (j + 1) = Z at h2 ⊢
    omega
/-- The bytes behind the first one, as the reference reads them. -/
def dd (l : List UInt8) (k j : Nat) : Nat := (l.getD (k + j) 0).toNat
theorem dd_lt (l : List UInt8) (k j : Nat) : dd l k j < 256 := (l.getD (k + j) 0).toNat_lt
/-- What the first byte says: how many bytes, what it gives itself, the least rune. -/
def Lead (c n a least : Nat) : Prop := (192 ≤ c ∧ c < 224 ∧ n = 2 ∧ a = c - 192 ∧ least = 128) ∨ (224 ≤ c ∧ c < 240 ∧ n = 3 ∧ a = c - 224 ∧ least = 2048) ∨ (240 ≤ c ∧ c < 248 ∧ n = 4 ∧ a = c - 240 ∧ least = 65536)
theorem Lead.n {c n a least : Nat} (h : Lead c n a least) : 2 ≤ n ∧ n ≤ 4 ∧ a < 32 := by unfold Lead at h; omega

theorem decode_at' (l : List UInt8) (k : Nat) : decodeL (l.drop k) = decodeN (l.length - k) (l.getD k 0).toNat (dd l k 1) (dd l k 2) (dd l k 3) := decode_drop l k
set_option maxRecDepth 100000 in
/-- Some byte behind the first one lacks, or is none that may stand there. -/
theorem at1_short {l : List UInt8} {k c n a least : Nat} (hc : c = (l.getD k 0).toNat) (hl : Lead c n a least) (h : l.length < k + n ∨ ∃ j, 1 ≤ j ∧ j < n ∧ (dd l k j < 128 ∨ 192 ≤ dd l k j)) : at1 (l.drop k) = (0, 0) := by
  apply at1_bad
  rw [decode_at', ← hc]
  have h1 := dd_lt l k 1
  have h2 := dd_lt l k 2
  have h3 := dd_lt l k 3
  rcases h with h | ⟨j, hj1, hj2, h⟩
  · generalize dd l k 1 = x at *
    generalize dd l k 2 = y at *
    generalize dd l k 3 = z at *
    unfold Lead at hl
    unfold decodeN
    repeat' split
    all_goals first | rfl | (exfalso; omega)
  · have hj : j = 1 ∨ j = 2 ∨ j = 3 := by have := hl.n; omega
    rcases hj with rfl | rfl | rfl
    all_goals
      generalize dd l k 1 = x at *
      generalize dd l k 2 = y at *
      generalize dd l k 3 = z at *
      unfold Lead at hl
      unfold decodeN
      repeat' split
      all_goals first | rfl | (exfalso; omega)
set_option maxRecDepth 100000 in
/-- All bytes are there: the rune, or none. -/
theorem at1_full {l : List UInt8} {k c n a least : Nat} (hc : c = (l.getD k 0).toNat) (hl : Lead c n a least) (hn : k + n ≤ l.length) (hd : ∀ j, 1 ≤ j → j < n → 128 ≤ dd l k j ∧ dd l k j < 192) :
    at1 (l.drop k) = if acc a (dd l k) (n - 1) < least ∨ 1114111 < acc a (dd l k) (n - 1) ∨ (55296 ≤ acc a (dd l k) (n - 1) ∧ acc a (dd l k) (n - 1) < 57344) then (0, 0) else (acc a (dd l k) (n - 1), n) := by
  have hne : l.drop k ≠ [] := by
    intro h
    have := congrArg List.length h
    rw [List.length_drop] at this
    have := hl.n
    simp at *
    omega
  have e := decode_at' l k
  rw [← hc] at e
  have d1 := hd 1
  have d2 := hd 2
  have d3 := hd 3
  clear hd
  rcases hl with ⟨g1, g2, rfl, rfl, rfl⟩ | ⟨g1, g2, rfl, rfl, rfl⟩ | ⟨g1, g2, rfl, rfl, rfl⟩
  · have d1 := d1 (by omega) (by omega)
    obtain ⟨r, hr⟩ : ∃ r, r = acc (c - 192) (dd l k) (2 - 1) := ⟨_, rfl⟩
    have hr' : r = 64 * (c - 192) + (dd l k 1 - 128) := by rw [hr]; exact acc1 _ _
    rw [← hr]
    clear hr
    generalize dd l k 1 = x at *
    generalize dd l k 2 = y at *
    generalize dd l k 3 = z at *
    split
    · apply at1_bad
      rw [e]
      unfold decodeN
      repeat' split
      all_goals first | rfl | (exfalso; omega)
    · apply at1_good hne
      · rw [e]
        unfold decodeN
        repeat' split
        all_goals first | (exfalso; omega) | (apply Prod.ext <;> simp only <;> omega)
      · intro h; cases h
  · have d1 := d1 (by omega) (by omega)
    have d2 := d2 (by omega) (by omega)
    obtain ⟨r, hr⟩ : ∃ r, r = acc (c - 224) (dd l k) (3 - 1) := ⟨_, rfl⟩
    have hr' : r = 64 * (64 * (c - 224) + (dd l k 1 - 128)) + (dd l k 2 - 128) := by rw [hr]; exact acc2 _ _
    rw [← hr]
    clear hr
    generalize dd l k 1 = x at *
    generalize dd l k 2 = y at *
    generalize dd l k 3 = z at *
    split
    · apply at1_bad
      rw [e]
      unfold decodeN
      repeat' split
      all_goals first | rfl | (exfalso; omega)
    · apply at1_good hne
      · rw [e]
        unfold decodeN
        repeat' split
        all_goals first | (exfalso; omega) | (apply Prod.ext <;> simp only <;> omega)
      · intro h; cases h
  · have d1 := d1 (by omega) (by omega)
    have d2 := d2 (by omega) (by omega)
    have d3 := d3 (by omega) (by omega)
    obtain ⟨r, hr⟩ : ∃ r, r = acc (c - 240) (dd l k) (4 - 1) := ⟨_, rfl⟩
    have hr' : r = 64 * (64 * (64 * (c - 240) + (dd l k 1 - 128)) + (dd l k 2 - 128)) + (dd l k 3 - 128) := by rw [hr]; exact acc3 _ _
    rw [← hr]
    clear hr
    generalize dd l k 1 = x at *
    generalize dd l k 2 = y at *
    generalize dd l k 3 = z at *
    split
    · apply at1_bad
      rw [e]
      unfold decodeN
      repeat' split
      all_goals first | rfl | (exfalso; omega)
    · apply at1_good hne
      · rw [e]
        unfold decodeN
        repeat' split
        all_goals first | (exfalso; omega) | (apply Prod.ext <;> simp only <;> omega)
      · intro h; cases h
theorem at1_ascii {l : List UInt8} {k : Nat} (hk : k < l.length) (h : (l.getD k 0).toNat < 128) : at1 (l.drop k) = ((l.getD k 0).toNat, 1) := by
  apply at1_good
  · intro h
    have := congrArg List.length h
    rw [List.length_drop] at this
    simp at this
    omega
  · rw [decode_drop]
    unfold decodeN
    rw [if_pos h]
  · intro e
    injection e with e1 _
    omega
theorem at1_none {l : List UInt8} {k : Nat} (h : (128 ≤ (l.getD k 0).toNat ∧ (l.getD k 0).toNat < 192) ∨ 248 ≤ (l.getD k 0).toNat) : at1 (l.drop k) = (0, 0) := by
  apply at1_bad
  rw [decode_drop]
  have := (l.getD k 0).toNat_lt
  unfold decodeN
  repeat' split
  all_goals first | rfl | (exfalso; omega)
end Go.Proofs.YtgeefnmgejnemaaDoor.Utf
