/- What two escapes, one behind the other, are read as: plain lists. -/
import Derived.Test.YtgeefnmgejnemaaDoorUtfLawEsc
import Derived.Test.YtgeefnmgejnemaaDoorUtfUnqMem
import Derived.Test.YtgeefnmgejnemaaDoorUtfRefUnq
namespace Go.Proofs.YtgeefnmgejnemaaDoor.Utf
open Go.Lib (encodeRune)
set_option linter.unusedSimpArgs false
set_option linter.unusedVariables false
theorem hexD_digits (b : Bool) (x : Nat) (h : x < 16) : hexD ((digits b).getD x 0).toNat = some x := by
  have : x = 0 ∨ x = 1 ∨ x = 2 ∨ x = 3 ∨ x = 4 ∨ x = 5 ∨ x = 6 ∨ x = 7 ∨ x = 8 ∨ x = 9 ∨ x = 10 ∨ x = 11 ∨ x = 12 ∨ x = 13 ∨ x = 14 ∨ x = 15 := by omega
  cases b <;> rcases this with rfl | rfl | rfl | rfl | rfl | rfl | rfl | rfl | rfl | rfl | rfl | rfl | rfl | rfl | rfl | rfl <;> decide
theorem fourL_esc (b : Bool) (n : Nat) (r : List UInt8) (hn : n ≤ 65535) : fourL (escB b n ++ r) = some n := by
  rw [fourL_go (l := escB b n ++ r) (by simp [escB, List.getD])]
  have e : ((escB b n ++ r).drop 2).take 4 = [(digits b).getD (n / 4096 % 16) 0, (digits b).getD (n / 256 % 16) 0, (digits b).getD (n / 16 % 16) 0, (digits b).getD (n % 16) 0] := by simp [escB]
  rw [e]
  simp only [hexFold]
  rw [hexD_digits b _ (by omega)]
  simp only
  rw [hexD_digits b _ (by omega)]
  simp only
  rw [hexD_digits b _ (by omega)]
  simp only
  rw [hexD_digits b _ (by omega)]
  simp only
  congr 1
  omega
theorem stepL_esc (b : Bool) (n : Nat) (r : List UInt8) : stepL (escB b n ++ r) = escapeL (escB b n ++ r) := by
  unfold stepL
  rw [if_neg (by simp [escB, List.getD]), if_pos (by simp [escB, List.getD])]
def twoL (b : Bool) (a c : Nat) : List UInt8 := 34 :: (escB b a ++ (escB (!b) c ++ [34]))
theorem two_1 (b : Bool) (a c : Nat) : (twoL b a c).drop 1 = escB b a ++ (escB (!b) c ++ [34]) := rfl
theorem two_7 (b : Bool) (a c : Nat) : (twoL b a c).drop 7 = escB (!b) c ++ [34] := rfl
theorem two_13 (b : Bool) (a c : Nat) : (twoL b a c).drop 13 = [34] := rfl
theorem two_len (b : Bool) (a c : Nat) : (twoL b a c).length = 14 := rfl
theorem esc_6 (b : Bool) (n : Nat) (r : List UInt8) : (escB b n ++ r).drop 6 = r := rfl
theorem two_end (b : Bool) (a c : Nat) (out : List UInt8) : unqGo (twoL b a c) 13 out = (out, 14, 0) := unqGo_end (by rw [two_len]; decide) rfl
theorem two_go (b : Bool) (a c : Nat) : unquoteL (twoL b a c) 0 = ((unqGo (twoL b a c) 1 []).1, ((unqGo (twoL b a c) 1 []).2.1 : Int), (unqGo (twoL b a c) 1 []).2.2) := by
  unfold unquoteL
  rw [if_neg (by rw [two_len]; decide), if_neg (by rw [two_len]; simp [twoL, List.getD])]
  rfl
theorem unq_go1 {l out : List UInt8} {k r n : Nat} (h1 : ¬ (k < l.length ∧ (l.getD k 0).toNat = 34)) (hs : stepL (l.drop k) = (r, n, 0)) (hn : n ≠ 0) (hk : k < l.length) : unqGo l k out = unqGo l (k + n) (out ++ encodeRune (r : Int)) := by
  rw [unqGo_on h1 (by rw [hs]) (by rw [hs]; exact hn) hk, hs]
theorem two_pair (b : Bool) (a c r : Nat) (ha : 55296 ≤ a ∧ a < 56320) (hc : 56320 ≤ c ∧ c < 57344) (hr : 65536 + 1024 * (a - 55296) + c - 56320 = r) : unquoteL (twoL b a c) 0 = (encodeRune (r : Int), 14, 0) := by
  have h : stepL ((twoL b a c).drop 1) = (r, 12, 0) := by
    rw [two_1, stepL_esc, escapeL_pair (fourL_esc b a _ (by omega)) (by omega) (by rw [esc_6]; exact fourL_esc (!b) c _ (by omega)) (by omega), hr]
  rw [two_go, unq_go1 (k := 1) (by simp [twoL, escB, List.getD]) h (by decide) (by rw [two_len]; decide), two_end]
  rfl
theorem two_bad1 (b : Bool) (a c : Nat) (ha : 55296 ≤ a ∧ a < 57344) (hc : c ≤ 65535) (hp : ¬ (a < 56320 ∧ 56320 ≤ c ∧ c < 57344)) : unquoteL (twoL b a c) 0 = ([], 1, 3) := by
  have h : stepL ((twoL b a c).drop 1) = (0, 0, 3) := by
    rw [two_1, stepL_esc, escapeL_half (fourL_esc b a _ (by omega)) (by omega) (.inr ⟨c, by rw [esc_6]; exact fourL_esc (!b) c _ hc, by omega⟩)]
  rw [two_go, unqGo_bad (k := 1) (by simp [twoL, escB, List.getD]) (by rw [h]; decide), h]
  rfl
theorem two_first (b : Bool) (a c : Nat) (ha : a < 55296 ∨ 57343 < a) (h6 : a ≤ 65535) : unqGo (twoL b a c) 1 [] = unqGo (twoL b a c) 7 (encodeRune (a : Int)) := by
  have h : stepL ((twoL b a c).drop 1) = (a, 6, 0) := by
    rw [two_1, stepL_esc, escapeL_one (fourL_esc b a _ h6) ha]
  rw [unq_go1 (k := 1) (by simp [twoL, escB, List.getD]) h (by decide) (by rw [two_len]; decide)]
  rfl
theorem two_bad7 (b : Bool) (a c : Nat) (ha : a < 55296 ∨ 57343 < a) (h6 : a ≤ 65535) (hc : 55296 ≤ c ∧ c < 57344) : unquoteL (twoL b a c) 0 = ([], 7, 3) := by
  have h : stepL ((twoL b a c).drop 7) = (0, 0, 3) := by
    rw [two_7, stepL_esc, escapeL_half (fourL_esc (!b) c _ (by omega)) (by omega) (.inl (by rw [esc_6]; decide))]
  rw [two_go, two_first b a c ha h6, unqGo_bad (k := 7) (by simp [twoL, escB, List.getD]) (by rw [h]; decide), h]
  rfl
theorem two_both (b : Bool) (a c : Nat) (ha : a < 55296 ∨ 57343 < a) (h6 : a ≤ 65535) (hc : c < 55296 ∨ 57343 < c) (hc6 : c ≤ 65535) : unquoteL (twoL b a c) 0 = (encodeRune (a : Int) ++ encodeRune (c : Int), 14, 0) := by
  have h : stepL ((twoL b a c).drop 7) = (c, 6, 0) := by
    rw [two_7, stepL_esc, escapeL_one (fourL_esc (!b) c _ hc6) hc]
  rw [two_go, two_first b a c ha h6, unq_go1 (k := 7) (by simp [twoL, escB, List.getD]) h (by decide) (by rw [two_len]; decide), two_end]
  rfl
theorem two_str (b : Bool) (a c : Nat) : bs [34] ++ bs (escB b a) ++ bs (escB (!b) c) ++ bs [34] = bs (twoL b a c) := by
  rw [bs_append, bs_append, bs_append]
  unfold twoL
  simp
theorem esc_size (b : Bool) (n : Nat) : (bs (escB b n)).size = 6 := by rw [bs_size]; rfl
end Go.Proofs.YtgeefnmgejnemaaDoor.Utf
