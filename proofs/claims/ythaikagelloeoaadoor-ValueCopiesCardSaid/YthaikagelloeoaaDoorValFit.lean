/- Values that fit in memory, and rows of values. -/
import Derived.Test.YthaikagelloeoaaDoorValDeep
import Derived.Test.YthaikagelloeoaaDoorWords
namespace Go.Proofs.YthaikagelloeoaaDoor
open Go.RowKit Val

/-- The lists within are no longer than memory bears. -/
def Fit : Nat → Val → Prop
  | 0, _ => True
  | n + 1, v => v.l.length * 88 ≤ 140737488351232 ∧ v.o.length * 104 ≤ 140737488351232 ∧ (∀ x ∈ v.l, Fit n x) ∧ (∀ m ∈ v.o, Fit n m.2)
theorem Fit.lower : ∀ {n m : Nat}, n ≤ m → ∀ {v}, Fit m v → Fit n v
  | 0, _, _, _, _ => trivial
  | n + 1, 0, h, _, _ => by omega
  | n + 1, m + 1, h, v, hv => by
    obtain ⟨h1, h2, h3, h4⟩ := hv
    exact ⟨h1, h2, fun x hx => Fit.lower (by omega) (h3 x hx), fun x hx => Fit.lower (by omega) (h4 x hx)⟩

/-- Rows of six cells each, one behind the other. -/
def RowsIn (w : World) (B n : Nat) (xs : List Value) (l : List Val) : Prop :=
  xs.length = l.length * 6 ∧ ∀ (j : Nat) (x : Val), l[j]? = some x → VIn w B n ((xs.drop (j * 6)).take 6) x
theorem VIn.six {w : World} {B n : Nat} {cs : List Value} {v : Val} (h : VIn w B n cs v) : cs.length = 6 := by
  obtain ⟨_, _, _, _, _, _, rfl, _⟩ := h.open
  rfl
theorem VIn.cells1 {w : World} {B n : Nat} {cs : List Value} {v : Val} (h : VIn w B n cs v) : ∀ u ∈ cs, u.oneCell' = true := by
  obtain ⟨_, _, _, _, _, _, rfl, _⟩ := h.open
  intro u hu
  simp only [List.mem_cons, List.not_mem_nil, or_false] at hu
  rcases hu with rfl | rfl | rfl | rfl | rfl | rfl <;> rfl
theorem RowsIn.nil (w : World) (B n : Nat) : RowsIn w B n [] [] := ⟨rfl, fun j x h => by simp at h⟩
theorem RowsIn.snoc {w : World} {B n : Nat} {xs ds : List Value} {l : List Val} {x : Val} (h : RowsIn w B n xs l) (hx : VIn w B n ds x) : RowsIn w B n (xs ++ ds) (l ++ [x]) := by
  have h6 := hx.six
  refine ⟨by rw [List.length_append, List.length_append, h.1, h6]; simp; omega, fun j y hj => ?_⟩
  have hl := h.1
  rcases Nat.lt_or_ge j l.length with hlt | hge
  · rw [List.getElem?_append_left hlt] at hj
    have := h.2 j y hj
    rwa [List.drop_append_of_le_length (by omega), List.take_append_of_le_length (by rw [List.length_drop]; omega)]
  · have hj2 : j = l.length := by
      have := (List.getElem?_eq_some_iff.1 hj).1
      simp at this; omega
    subst hj2
    rw [List.getElem?_append_right (Nat.le_refl _)] at hj
    simp at hj
    subst hj
    rw [← hl, List.drop_append_of_le_length (Nat.le_refl _), List.drop_length, List.nil_append, List.take_of_length_le (by omega)]
    exact hx
theorem RowsIn.cells1 {w : World} {B n : Nat} {xs : List Value} {l : List Val} (h : RowsIn w B n xs l) : ∀ u ∈ xs, u.oneCell' = true := by
  intro u hu
  obtain ⟨i, hi, rfl⟩ := List.mem_iff_getElem.1 hu
  have hl := h.1
  have hj : i / 6 < l.length := by omega
  have hv := h.2 (i / 6) _ (List.getElem?_eq_getElem hj)
  refine hv.cells1 _ ?_
  have e : ((xs.drop (i / 6 * 6)).take 6)[i % 6]? = some xs[i] := by
    rw [List.getElem?_take, if_pos (by omega), List.getElem?_drop, show i / 6 * 6 + i % 6 = i by omega, List.getElem?_eq_getElem hi]
  exact List.mem_of_getElem? e
theorem LIn.of_rows {w : World} {B n : Nat} {A : Option Addr} {xs : List Value} {l : List Val} (ha : At w B 6 A l.length xs) (h : RowsIn w B n xs l) : LIn w B n A l := by
  intro j x hj
  have hlt := (List.getElem?_eq_some_iff.1 hj).1
  obtain ⟨b, o, e, hb, hc⟩ := ha.2 (by omega)
  refine ⟨b, o, _, e, hb, fun i u hu => ?_, h.2 j x hj⟩
  rw [List.getElem?_take] at hu
  split at hu
  · rw [List.getElem?_drop] at hu
    rw [show o + j * 6 + i = o + (j * 6 + i) by omega]
    exact hc _ u hu
  · cases hu
theorem LIn.rows {w : World} {B n : Nat} {A : Option Addr} {l : List Val} (h : LIn w B n A l) : ∃ xs, At w B 6 A l.length xs ∧ RowsIn w B n xs l := by
  have hx : ∀ k, k ≤ l.length → ∃ xs, RowsIn w B n xs (l.take k) ∧ (0 < k → ∃ g p, A = some ⟨g, p, none⟩ ∧ g < B ∧ w.rangeAt g p xs) := by
    intro k
    induction k with
    | zero => intro _; exact ⟨[], by rw [List.take_zero]; exact RowsIn.nil w B n, fun h => absurd h (by omega)⟩
    | succ k ih =>
      intro hk
      obtain ⟨xs, hr, ha⟩ := ih (by omega)
      have hj : l[k]? = some l[k] := List.getElem?_eq_getElem (by omega)
      obtain ⟨g, p, ds, rfl, hg, hd, hv⟩ := h k _ hj
      refine ⟨xs ++ ds, by rw [List.take_succ_eq_append_getElem (by omega)]; exact hr.snoc hv, fun _ => ⟨g, p, rfl, hg, fun i u hu => ?_⟩⟩
      have hl := hr.1
      rw [List.length_take, Nat.min_eq_left (by omega)] at hl
      rcases Nat.lt_or_ge i xs.length with hi | hi
      · rw [List.getElem?_append_left hi] at hu
        obtain ⟨g', p', e, _, hc⟩ := ha (by omega)
        injection e with e; injection e with e1 e2; subst e1 e2
        exact hc i u hu
      · rw [List.getElem?_append_right hi] at hu
        have := hd _ u hu
        rwa [show p + k * 6 + (i - xs.length) = p + i by omega] at this
  obtain ⟨xs, hr, ha⟩ := hx l.length (Nat.le_refl _)
  rw [List.take_length] at hr
  exact ⟨xs, ⟨hr.1, fun h0 => by
    obtain ⟨g, p, e, hg, hc⟩ := ha h0
    exact ⟨g, p, e, hg, hc⟩⟩, hr⟩
theorem LIn.keep {w w' : World} {B B' n : Nat} {A : Option Addr} {l : List Val} (h : LIn w B n A l) (hB : B ≤ B') (hk : ∀ p : Addr, p.block < B → w'.cell? p = w.cell? p) : LIn w' B' n A l := by
  intro j x hj
  obtain ⟨g, p, ds, e, hg, hd, hv⟩ := h j x hj
  exact ⟨g, p, ds, e, by omega, fun i u hu => (hk _ hg).trans (hd i u hu), hv.keep hB hk⟩
theorem LIn.then {w w' : World} {n : Nat} {A : Option Addr} {l : List Val} (h : LIn w w.heap.size n A l) (hb : Below w.heap.size w w') : LIn w' w'.heap.size n A l := h.keep hb.size fun _ hp => hb.cell hp
theorem RowsIn.keep {w w' : World} {B B' n : Nat} {xs : List Value} {l : List Val} (h : RowsIn w B n xs l) (hB : B ≤ B') (hk : ∀ p : Addr, p.block < B → w'.cell? p = w.cell? p) : RowsIn w' B' n xs l :=
  ⟨h.1, fun j x hj => (h.2 j x hj).keep hB hk⟩
end Go.Proofs.YthaikagelloeoaaDoor
