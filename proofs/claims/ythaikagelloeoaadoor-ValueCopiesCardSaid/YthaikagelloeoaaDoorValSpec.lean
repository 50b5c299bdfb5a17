/- Values, as plain data: nothing of the program is read here. -/
import Derived.Lib.ValidLaws
import Derived.WalkKit
import Derived.Lib.Strings
namespace Go.Proofs.YthaikagelloeoaaDoor

/-- A value: its kind, a bool, a number, a text, a list, an object. -/
inductive Val where
  | mk (k : Int) (b : Bool) (i : Int) (s : List UInt8) (l : List Val) (o : List (List UInt8 × Val))

namespace Val
def k : Val → Int | .mk k _ _ _ _ _ => k
def b : Val → Bool | .mk _ b _ _ _ _ => b
def i : Val → Int | .mk _ _ i _ _ _ => i
def s : Val → List UInt8 | .mk _ _ _ s _ _ => s
def l : Val → List Val | .mk _ _ _ _ l _ => l
def o : Val → List (List UInt8 × Val) | .mk _ _ _ _ _ o => o

/-- Nothing but what the kind names, and the kind is one. -/
def bareB (k : Int) (b : Bool) (i : Int) (z n m : Nat) : Bool :=
  decide (1 ≤ k) && decide (k ≤ 6) && (decide (k = 2) || !b) && (decide (k = 3) || decide (i = 0)) && (decide (k = 4) || decide (z = 0)) && (decide (k = 5) || decide (n = 0)) && (decide (k = 6) || decide (m = 0))
def bare (v : Val) : Bool := bareB v.k v.b v.i v.s.length v.l.length v.o.length

/-- The first error of a list's. -/
def firstE {α : Type} (f : α → Nat) : List α → Nat
  | [] => 0
  | v :: r => if f v ≠ 0 then f v else firstE f r
/-- The first error of members', behind a key. -/
def objE {α : Type} (f : α → Nat) : Option (List UInt8) → List (List UInt8 × α) → Nat
  | _, [] => 0
  | p, (k, v) :: r => if Lib.validD k = false then 3 else if (match p with | none => false | some q => !(Op.bytesLess q k)) = true then 8 else if f v ≠ 0 then f v else objE f (some k) r
/-- Why a value that stands so deep may not be; the first number is more than how deep it is. -/
def may : Nat → Val → Nat → Nat
  | 0, _, _ => 0
  | n + 1, v, d =>
    if v.bare = false then 9 else if 64 < d then 5 else if Lib.validD v.s = false then 3
    else if firstE (fun w => may n w (d + 1)) v.l ≠ 0 then firstE (fun w => may n w (d + 1)) v.l else objE (fun w => may n w (d + 1)) none v.o

def cmpI (a b : Int) : Int := if a < b then -1 else if b < a then 1 else 0
def cmpB (a b : List UInt8) : Int := if Op.bytesLess a b then -1 else if Op.bytesLess b a then 1 else 0
/-- The first part that is not the same, else the lengths. -/
def cmpL {α : Type} (f : α → α → Int) : List α → List α → Int
  | [], [] => 0
  | [], _ :: _ => -1
  | _ :: _, [] => 1
  | a :: r, b :: q => if f a b ≠ 0 then f a b else cmpL f r q
def cmpM {α : Type} (f : α → α → Int) (a b : List UInt8 × α) : Int := if cmpB a.1 b.1 ≠ 0 then cmpB a.1 b.1 else f a.2 b.2
def num (b : Bool) : Int := if b then 1 else 0
def cmp : Nat → Val → Val → Int
  | 0, _, _ => 0
  | n + 1, a, b =>
    if a.k ≠ b.k then cmpI a.k b.k
    else if a.k = 2 then cmpI (num a.b) (num b.b)
    else if a.k = 3 then cmpI a.i b.i
    else if a.k = 4 then cmpB a.s b.s
    else if a.k = 5 then cmpL (cmp n) a.l b.l
    else if a.k = 6 then cmpL (cmpM (cmp n)) a.o b.o
    else 0

/-- The values at once within. -/
def kids (v : Val) : List Val := if v.k = 5 then v.l else if v.k = 6 then v.o.map (·.2) else []
def stepD (m d : Int) : Int := max m d
def stepS (m d : Int) : Int := RowKit.wrap64 (m + d)
def foldK (st : Int → Int → Int) (f : Val → Int) (z : Int) (l : List Val) : Int := l.foldl (fun m w => st m (f w)) z
def deep : Nat → Val → Int
  | 0, _ => 0
  | n + 1, v => RowKit.wrap64 (foldK stepD (deep n) 0 v.kids + 1)
def size : Nat → Val → Int
  | 0, _ => 0
  | n + 1, v => foldK stepS (size n) 1 v.kids
theorem foldK_take (st : Int → Int → Int) (f : Val → Int) (z : Int) (l : List Val) (j : Nat) (x : Val) (h : l[j]? = some x) : foldK st f z (l.take (j + 1)) = st (foldK st f z (l.take j)) (f x) := by
  have hj := (List.getElem?_eq_some_iff.1 h).1
  have e : l[j] = x := (List.getElem?_eq_some_iff.1 h).2
  unfold foldK
  rw [List.take_succ_eq_append_getElem hj, List.foldl_append, e]
  rfl

/-! what orders -/
structure Orders {α : Type} (f : α → α → Int) : Prop where
  tri : ∀ a b, f a b = -1 ∨ f a b = 0 ∨ f a b = 1
  turn : ∀ a b, f b a = -f a b
  trans : ∀ a b c, f a b ≤ 0 → f b c ≤ 0 → f a c ≤ 0 ∧ (f a c = 0 → f a b = 0 ∧ f b c = 0)
theorem Orders.self {α : Type} {f : α → α → Int} (h : Orders f) (a : α) : f a a = 0 := by have := h.turn a a; omega
theorem Orders.zero_left {α : Type} {f : α → α → Int} (h : Orders f) {a b : α} (c : α) (e : f a b = 0) : f a c = f b c := by
  have t1 := h.tri a c
  have t2 := h.tri b c
  have e' : f b a = 0 := by have := h.turn a b; omega
  rcases t1 with x | x | x <;> rcases t2 with y | y | y <;> rw [x, y] <;> exfalso
  · have := h.trans b a c (by omega) (by omega); rw [y] at this; have := this.2 rfl; omega
  · have := h.trans b a c (by omega) (by omega); omega
  · have := h.trans a b c (by omega) (by omega); rw [x] at this; have := this.2 rfl; omega
  · have := h.trans b a c (by omega) (by omega); omega
  · have := h.trans a b c (by omega) (by omega); omega
  · have := h.trans a b c (by omega) (by omega); omega
theorem cmpI_orders : Orders cmpI := by
  refine ⟨fun a b => ?_, fun a b => ?_, fun a b c => ?_⟩ <;> unfold cmpI <;> repeat' split
  all_goals omega
def cmpU (x y : UInt8) : Int := cmpI (x.toNat : Int) (y.toNat : Int)
theorem cmpU_orders : Orders cmpU := ⟨fun _ _ => cmpI_orders.tri _ _, fun _ _ => cmpI_orders.turn _ _, fun _ _ _ => cmpI_orders.trans _ _ _⟩
theorem less_cons (x y : UInt8) (r q : List UInt8) : Op.bytesLess (x :: r) (y :: q) = (decide (x < y) || (x == y && Op.bytesLess r q)) := rfl
theorem leq_less : ∀ a b : List UInt8, (Op.bytesLess a b || a == b) = !Op.bytesLess b a
  | [], [] => rfl
  | [], _ :: _ => rfl
  | _ :: _, [] => rfl
  | x :: r, y :: q => by
    have ih := leq_less r q
    rw [less_cons, less_cons]
    by_cases h1 : x < y
    · have h2 : ¬ y < x := fun h => by rw [UInt8.lt_iff_toNat_lt] at h1 h; omega
      have h3 : ¬ y = x := fun e => by rw [e, UInt8.lt_iff_toNat_lt] at h1; omega
      simp [h1, h2, h3]
    · by_cases h2 : y < x
      · have h3 : ¬ x = y := fun e => h1 (by rw [e] at h2; rw [e]; exact h2)
        simp [h1, h2, h3]
      · obtain rfl : x = y := UInt8.toNat_inj.1 (by rw [UInt8.lt_iff_toNat_lt] at h1 h2; omega)
        simp only [UInt8.lt_irrefl, decide_false, Bool.false_or, beq_self_eq_true, Bool.true_and]
        rw [← ih]
        by_cases e : r = q <;> simp [e]
theorem cmpB_eq : ∀ a b : List UInt8, cmpB a b = cmpL cmpU a b
  | [], [] => rfl
  | [], _ :: _ => rfl
  | _ :: _, [] => rfl
  | x :: r, y :: q => by
    have ih := cmpB_eq r q
    unfold cmpL
    unfold cmpB at ih ⊢
    rw [less_cons, less_cons, ← ih]
    unfold cmpU cmpI
    have hxy : (x < y) ↔ ((x.toNat : Int) < (y.toNat : Int)) := by rw [UInt8.lt_iff_toNat_lt]; omega
    have hyx : (y < x) ↔ ((y.toNat : Int) < (x.toNat : Int)) := by rw [UInt8.lt_iff_toNat_lt]; omega
    by_cases h1 : (x.toNat : Int) < (y.toNat : Int)
    · simp [hxy, h1]
    · by_cases h2 : (y.toNat : Int) < (x.toNat : Int)
      · have hne : ¬ x = y := fun e => by rw [e] at h2; omega
        simp [hxy, hyx, h1, h2, hne]
      · obtain rfl : x = y := UInt8.toNat_inj.1 (by omega)
        simp
theorem cmpL_orders {α : Type} {f : α → α → Int} (h : Orders f) : Orders (cmpL f) := by
  refine ⟨?_, ?_, ?_⟩
  · intro a
    induction a with
    | nil => intro b; cases b <;> simp [cmpL]
    | cons x r ih =>
      intro b
      cases b with
      | nil => simp [cmpL]
      | cons y q =>
        unfold cmpL
        split
        · exact h.tri x y
        · exact ih q
  · intro a
    induction a with
    | nil => intro b; cases b <;> simp [cmpL]
    | cons x r ih =>
      intro b
      cases b with
      | nil => simp [cmpL]
      | cons y q =>
        have ht := h.turn x y
        have hi := ih q
        unfold cmpL
        split <;> split <;> omega
  · intro a
    induction a with
    | nil => intro b c; cases b <;> cases c <;> simp [cmpL]
    | cons x r ih =>
      intro b c
      cases b with
      | nil => cases c <;> simp [cmpL]
      | cons y q =>
        cases c with
        | nil => 
          simp only [cmpL]
          omega
        | cons z p =>
          have h1 := h.trans x y z
          have hz1 := h.zero_left (a := x) (b := y) z
          have hz2 := h.zero_left (a := y) (b := z) x
          have t1 := h.turn x y
          have t2 := h.turn y z
          have t3 := h.turn x z
          have hi := ih q p
          unfold cmpL
          split <;> split <;> split <;> omega
theorem cmpB_orders : Orders cmpB := by
  have e : cmpB = cmpL cmpU := funext fun a => funext fun b => cmpB_eq a b
  rw [e]
  exact cmpL_orders cmpU_orders
theorem cmpM_orders {α : Type} {f : α → α → Int} (h : Orders f) : Orders (cmpM f) := by
  refine ⟨fun a b => ?_, fun a b => ?_, fun a b c => ?_⟩
  · unfold cmpM
    split
    · exact cmpB_orders.tri _ _
    · exact h.tri _ _
  · have t1 := cmpB_orders.turn a.1 b.1
    have t2 := h.turn a.2 b.2
    unfold cmpM
    split <;> split <;> omega
  · have h1 := cmpB_orders.trans a.1 b.1 c.1
    have hz1 := cmpB_orders.zero_left (a := a.1) (b := b.1) c.1
    have hz2 := cmpB_orders.zero_left (a := b.1) (b := c.1) a.1
    have t1 := cmpB_orders.turn a.1 b.1
    have t2 := cmpB_orders.turn b.1 c.1
    have t3 := cmpB_orders.turn a.1 c.1
    have h2 := h.trans a.2 b.2 c.2
    unfold cmpM
    split <;> split <;> split <;> omega
theorem cmp_other {n : Nat} {a b : Val} (h : a.k ≠ b.k) : cmp (n + 1) a b = cmpI a.k b.k := by unfold cmp; rw [if_pos h]
/-- Two of one kind. -/
def same (n : Nat) (k : Int) (a b : Val) : Int :=
  if k = 2 then cmpI (num a.b) (num b.b) else if k = 3 then cmpI a.i b.i else if k = 4 then cmpB a.s b.s else if k = 5 then cmpL (cmp n) a.l b.l else if k = 6 then cmpL (cmpM (cmp n)) a.o b.o else 0
theorem cmp_same {n : Nat} {a b : Val} (h : a.k = b.k) : cmp (n + 1) a b = same n a.k a b := by
  unfold same
  rw [cmp, if_neg (fun e => e h)]
theorem same_orders {n : Nat} (h : Orders (cmp n)) (k : Int) : Orders (same n k) := by
  have hl := cmpL_orders h
  have ho := cmpL_orders (cmpM_orders h)
  refine ⟨fun a b => ?_, fun a b => ?_, fun a b c => ?_⟩
  · unfold same
    split
    · exact cmpI_orders.tri _ _
    · split
      · exact cmpI_orders.tri _ _
      · split
        · exact cmpB_orders.tri _ _
        · split
          · exact hl.tri _ _
          · split
            · exact ho.tri _ _
            · exact .inr (.inl rfl)
  · unfold same
    split
    · exact cmpI_orders.turn _ _
    · split
      · exact cmpI_orders.turn _ _
      · split
        · exact cmpB_orders.turn _ _
        · split
          · exact hl.turn _ _
          · split
            · exact ho.turn _ _
            · rfl
  · unfold same
    split
    · exact cmpI_orders.trans _ _ _
    · split
      · exact cmpI_orders.trans _ _ _
      · split
        · exact cmpB_orders.trans _ _ _
        · split
          · exact hl.trans _ _ _
          · split
            · exact ho.trans _ _ _
            · exact fun _ _ => ⟨Int.le_refl _, fun _ => ⟨rfl, rfl⟩⟩
theorem cmpI_zero {a b : Int} (h : a ≠ b) : cmpI a b ≠ 0 := by
  unfold cmpI
  split
  · decide
  · split
    · decide
    · omega
theorem cmp_orders : ∀ n, Orders (cmp n)
  | 0 => ⟨fun _ _ => .inr (.inl rfl), fun _ _ => rfl, fun _ _ _ _ _ => ⟨by simp [cmp], fun _ => ⟨rfl, rfl⟩⟩⟩
  | n + 1 => by
    have ih := cmp_orders n
    have hs := same_orders ih
    refine ⟨fun a b => ?_, fun a b => ?_, fun a b c => ?_⟩
    · by_cases h : a.k = b.k
      · rw [cmp_same h]; exact (hs _).tri _ _
      · rw [cmp_other h]; exact cmpI_orders.tri _ _
    · by_cases h : a.k = b.k
      · rw [cmp_same h, cmp_same h.symm, ← h]; exact (hs _).turn _ _
      · rw [cmp_other h, cmp_other (fun e => h e.symm)]; exact cmpI_orders.turn _ _
    · have hI := cmpI_orders.trans a.k b.k c.k
      by_cases hab : a.k = b.k
      · by_cases hbc : b.k = c.k
        · rw [cmp_same hab, cmp_same hbc, cmp_same (hab.trans hbc), ← hab]; exact (hs _).trans _ _ _
        · rw [cmp_same hab, cmp_other hbc, cmp_other (by rw [hab]; exact hbc), hab]
          intro _ h2
          exact ⟨h2, fun h => absurd h (cmpI_zero hbc)⟩
      · by_cases hbc : b.k = c.k
        · rw [cmp_other hab, cmp_same hbc, cmp_other (by rw [← hbc]; exact hab), ← hbc]
          intro h1 _
          exact ⟨h1, fun h => absurd h (cmpI_zero hab)⟩
        · rw [cmp_other hab, cmp_other hbc]
          intro h1 h2
          have h3 := hI h1 h2
          by_cases hac : a.k = c.k
          · exfalso
            have e : cmpI a.k c.k = 0 := by rw [hac]; exact cmpI_orders.self _
            exact cmpI_zero hab (h3.2 e).1
          · rw [cmp_other hac]
            exact h3
end Val
end Go.Proofs.YthaikagelloeoaaDoor
