/- The runes of bytes, with their places; a text's quote: plain functions over lists. -/
import Derived.Test.YtgeefnmgejnemaaDoorUtfValid
import Derived.Test.YtgeefnmgejnemaaDoorUtfMath
namespace Go.Proofs.YtgeefnmgejnemaaDoor.Utf
open Go.Lib
set_option linter.unusedVariables false
set_option linter.unusedSimpArgs false

/-- The runes from a place on, each with its place, up to the first byte at which none begins. -/
def runesAt (l : List UInt8) (k : Nat) : List (Nat × Nat) :=
  if h : (at1 (l.drop k)).2 = 0 then [] else (k, (at1 (l.drop k)).1) :: runesAt l (k + (at1 (l.drop k)).2)
termination_by l.length - k
decreasing_by
  have h1 := at1_width (l.drop k)
  rw [List.length_drop] at h1
  omega
theorem runesAt_none {l : List UInt8} {k : Nat} (h : (at1 (l.drop k)).2 = 0) : runesAt l k = [] := by rw [runesAt, dif_pos h]
theorem runesAt_some {l : List UInt8} {k : Nat} (h : (at1 (l.drop k)).2 ≠ 0) : runesAt l k = (k, (at1 (l.drop k)).1) :: runesAt l (k + (at1 (l.drop k)).2) := by rw [runesAt, dif_neg h]
theorem at1_le {l : List UInt8} {k : Nat} (h : (at1 (l.drop k)).2 ≠ 0) : k + (at1 (l.drop k)).2 ≤ l.length := by
  have h1 := at1_width (l.drop k)
  rw [List.length_drop] at h1
  omega
def runesL (l : List UInt8) : List (Nat × Nat) := runesAt l 0
/-- As many runes as bytes at most. -/
theorem runesAt_length (l : List UInt8) : ∀ n k, l.length - k ≤ n → (runesAt l k).length ≤ l.length - k
  | 0, k, hn => by
    by_cases h : (at1 (l.drop k)).2 = 0
    · rw [runesAt_none h]; simp
    · have := at1_le h; omega
  | n + 1, k, hn => by
    by_cases h : (at1 (l.drop k)).2 = 0
    · rw [runesAt_none h]; simp
    · have h1 := at1_le h
      have := runesAt_length l n (k + (at1 (l.drop k)).2) (by omega)
      rw [runesAt_some h, List.length_cons]
      omega
theorem runesL_length (l : List UInt8) : (runesL l).length ≤ l.length := by
  have := runesAt_length l l.length 0 (by omega)
  simpa [runesL] using this
/-- What Go's first rune says, by the document's words. -/
def ok1 (l : List UInt8) : Bool := (at1 l).2 != 0
theorem at1_rune_lt (l : List UInt8) : (at1 l).1 ≤ 1114111 := by
  unfold at1
  split
  · simp
  · rw [decodeL_N]
    have h0 := (l.getD 0 0).toNat_lt
    have h1 := (l.getD 1 0).toNat_lt
    have h2 := (l.getD 2 0).toNat_lt
    have h3 := (l.getD 3 0).toNat_lt
    generalize (l.getD 0 0).toNat = a at *
    generalize (l.getD 1 0).toNat = b at *
    generalize (l.getD 2 0).toNat = c at *
    generalize (l.getD 3 0).toNat = d at *
    unfold decodeN
    repeat' split
    all_goals (simp only; omega)
theorem runes_encode (l : List UInt8) : ∀ n k, l.length - k ≤ n → validD (l.drop k) = true → (runesAt l k).flatMap (fun x => encodeRune (x.2 : Int)) = l.drop k
  | 0, k, hn, hv => by
    have e : l.drop k = [] := List.drop_eq_nil_of_le (by omega)
    rw [runesAt_none (by rw [e]; rfl), e]
    rfl
  | n + 1, k, hn, hv => by
    by_cases hk : k < l.length
    · rw [valid_drop l k hk] at hv
      by_cases h : (at1 (l.drop k)).2 = 0
      · rw [if_pos h] at hv; cases hv
      · rw [if_neg h] at hv
        have h1 := at1_le h
        rw [runesAt_some h, List.flatMap_cons, at1_encode h, runes_encode l n _ (by omega) hv, ← List.drop_drop]
        exact List.take_append_drop _ _
    · have e : l.drop k = [] := List.drop_eq_nil_of_le (by omega)
      rw [runesAt_none (by rw [e]; rfl), e]
      rfl
/-- The letter of a short escape. -/
def escOf (r : Nat) : Option UInt8 := if r = 34 then some 34 else if r = 92 then some 92 else if r = 8 then some 98 else if r = 12 then some 102 else if r = 10 then some 110 else if r = 13 then some 114 else if r = 9 then some 116 else none
def hexL : List UInt8 := [48, 49, 50, 51, 52, 53, 54, 55, 56, 57, 97, 98, 99, 100, 101, 102]
/-- A rune in a quote. -/
def quoteR (r : Nat) : List UInt8 := match escOf r with
  | some c => [92, c]
  | none => if r < 32 then [92, 117, 48, 48, hexL.getD (r / 16) 0, hexL.getD (r % 16) 0] else encodeRune (r : Int)
def quoteOf (rs : List (Nat × Nat)) : List UInt8 := rs.flatMap fun x => quoteR x.2
/-- The quote of a text, and an error. -/
def quoteL (l : List UInt8) : List UInt8 × Nat := if validD l then (34 :: (quoteOf (runesL l) ++ [34]), 0) else ([], 3)
def odd (r : Nat) : Bool := decide (r < 32) || (decide (r = 34) || decide (r = 92))
def strangeL (l : List UInt8) : Bool := (runesL l).any fun x => odd x.2
theorem quoteR_plain {r : Nat} (h : odd r = false) : quoteR r = encodeRune (r : Int) := by
  unfold odd at h
  simp only [Bool.or_eq_false_iff, decide_eq_false_iff_not] at h
  have : escOf r = none := by
    unfold escOf
    rw [if_neg (by omega), if_neg (by omega), if_neg (by omega), if_neg (by omega), if_neg (by omega), if_neg (by omega), if_neg (by omega)]
  unfold quoteR
  rw [this]
  simp only
  rw [if_neg (by omega)]
theorem flatMap_same {α β : Type} {f g : α → List β} : ∀ {l : List α}, (∀ x ∈ l, f x = g x) → l.flatMap f = l.flatMap g
  | [], _ => rfl
  | a :: l, h => by
    rw [List.flatMap_cons, List.flatMap_cons, h a (by simp), flatMap_same fun x hx => h x (by simp [hx])]
theorem quoteL_plain {l : List UInt8} (hv : validD l = true) (hs : strangeL l = false) : quoteL l = (34 :: (l ++ [34]), 0) := by
  have e : quoteOf (runesL l) = l := by
    have h1 : quoteOf (runesL l) = (runesL l).flatMap fun x => encodeRune (x.2 : Int) := by
      unfold quoteOf
      unfold strangeL at hs
      rw [List.any_eq_false] at hs
      exact flatMap_same fun x hx => quoteR_plain (by simpa using hs x hx)
    rw [h1]
    have := runes_encode l l.length 0 (by omega) (by rw [List.drop_zero]; exact hv)
    rw [List.drop_zero] at this
    exact this
  unfold quoteL
  rw [if_pos hv, e]
theorem quoteR_len (r : Nat) : (quoteR r).length ≤ 6 := by
  unfold quoteR
  split
  · simp
  · split
    · simp
    · have := (encodeRuneZ_length (r : Int)).2
      unfold encodeRune
      simp only [List.length_map]
      omega
end Go.Proofs.YtgeefnmgejnemaaDoor.Utf
