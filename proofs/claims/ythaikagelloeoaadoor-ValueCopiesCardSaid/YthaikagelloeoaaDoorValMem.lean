/- Values in memory: 'VIn w B n cs v': the six cells cs read as v, at most n deep, below block B. -/
import Derived.Test.YthaikagelloeoaaDoorValSpec
import Derived.Test.YthaikagelloeoaaDoorLaw
import Derived.Test.YthaikagelloeoaaDoorStr
import Derived.Deep.Slices
namespace Go.Proofs.YthaikagelloeoaaDoor
open Go.RowKit Go.ChangeShapes Go.WideShapes

def I64 (n : Int) : Prop := -9223372036854775808 ≤ n ∧ n ≤ 9223372036854775807
def VIn (w : World) (B : Nat) : Nat → List Value → Val → Prop
  | 0, _, _ => False
  | n + 1, cs, v => ∃ A1 c1 A2 c2,
      cs = [.int .i64 v.k, .bool v.b, .int .i64 v.i, .string (bs v.s), .slice A1 v.l.length c1, .slice A2 v.o.length c2] ∧
      I64 v.k ∧ I64 v.i ∧ v.s.length ≤ 140737488351232 ∧ v.l.length ≤ 140737488351232 ∧ v.o.length ≤ 140737488351232 ∧ v.l.length ≤ c1 ∧ v.o.length ≤ c2 ∧
      (∀ (j : Nat) (x : Val), v.l[j]? = some x → ∃ g p ds, A1 = some ⟨g, p, none⟩ ∧ g < B ∧ w.rangeAt g (p + j * 6) ds ∧ VIn w B n ds x) ∧
      (∀ (j : Nat) (m : List UInt8 × Val), v.o[j]? = some m → ∃ g p ds, A2 = some ⟨g, p, none⟩ ∧ g < B ∧ w.rangeAt g (p + j * 7) (.string (bs m.1) :: ds) ∧ m.1.length ≤ 140737488351232 ∧ VIn w B n ds m.2)

theorem VIn.mono {w : World} {B : Nat} : ∀ {n m : Nat}, n ≤ m → ∀ {cs v}, VIn w B n cs v → VIn w B m cs v
  | 0, _, _, _, _, h => absurd h (by simp [VIn])
  | n + 1, 0, h, _, _, _ => by omega
  | n + 1, m + 1, hnm, cs, v, h => by
    obtain ⟨A1, c1, A2, c2, e, h1, h2, h3, h4, h5, h6, h7, hl, ho⟩ := h
    refine ⟨A1, c1, A2, c2, e, h1, h2, h3, h4, h5, h6, h7, fun j x hx => ?_, fun j x hx => ?_⟩
    · obtain ⟨g, p, ds, e1, e2, e3, e4⟩ := hl j x hx
      exact ⟨g, p, ds, e1, e2, e3, VIn.mono (by omega) e4⟩
    · obtain ⟨g, p, ds, e1, e2, e3, e4, e5⟩ := ho j x hx
      exact ⟨g, p, ds, e1, e2, e3, e4, VIn.mono (by omega) e5⟩
theorem VIn.keep {w w' : World} {B B' : Nat} (hB : B ≤ B') (hk : ∀ p : Addr, p.block < B → w'.cell? p = w.cell? p) : ∀ {n : Nat} {cs v}, VIn w B n cs v → VIn w' B' n cs v
  | 0, _, _, h => absurd h (by simp [VIn])
  | n + 1, cs, v, h => by
    obtain ⟨A1, c1, A2, c2, e, h1, h2, h3, h4, h5, h6, h7, hl, ho⟩ := h
    refine ⟨A1, c1, A2, c2, e, h1, h2, h3, h4, h5, h6, h7, fun j x hx => ?_, fun j x hx => ?_⟩
    · obtain ⟨g, p, ds, e1, e2, e3, e4⟩ := hl j x hx
      exact ⟨g, p, ds, e1, by omega, fun i u hu => (hk _ e2).trans (e3 i u hu), VIn.keep hB hk e4⟩
    · obtain ⟨g, p, ds, e1, e2, e3, e4, e5⟩ := ho j x hx
      exact ⟨g, p, ds, e1, by omega, fun i u hu => (hk _ e2).trans (e3 i u hu), e4, VIn.keep hB hk e5⟩
theorem VIn.below {w w' : World} {B C n : Nat} {cs : List Value} {v : Val} (h : VIn w B n cs v) (hb : Below C w w') (hC : B ≤ C) : VIn w' B n cs v := h.keep (Nat.le_refl _) fun _ hp => hb.cell (by omega)
theorem VIn.more {w : World} {B B' n : Nat} {cs : List Value} {v : Val} (h : VIn w B n cs v) (hB : B ≤ B') : VIn w B' n cs v := h.keep hB fun _ _ => rfl
theorem VIn.then {w w' : World} {n : Nat} {cs : List Value} {v : Val} (h : VIn w w.heap.size n cs v) (hb : Below w.heap.size w w') : VIn w' w'.heap.size n cs v := (h.below hb (Nat.le_refl _)).more hb.size
theorem VIn.drewN {w : World} {B n : Nat} {cs : List Value} {v : Val} (h : VIn w B n cs v) (k : Nat) : VIn (w.drewN k) B n cs v := VIn.keep (w := w) (w' := w.drewN k) (Nat.le_refl _) (fun _ _ => rfl) h

/-! from what a call is handed -/
theorem cells_range {w : World} {b o n : Nat} {cs : List Value} (h : w.cells? 0 ⟨b, o, none⟩ n = some cs) : cs.length = n ∧ w.rangeAt b o cs := by
  obtain ⟨_, hl, hc⟩ := World.cells?_some h
  refine ⟨hl, fun j v hv => ?_⟩
  have hj : j < n := by have := (List.getElem?_eq_some_iff.1 hv).1; omega
  have := hc j hj
  rw [Addr.add_mid] at this
  rw [this, hv]
theorem spot_none {w : World} {a : Addr} {n : Nat} {cs : List Value} (h : w.cells? 0 a n = some cs) (hn : 0 < n) : a.spot = none ∧ a.block < w.heap.size := by
  obtain ⟨_, hl, hc⟩ := World.cells?_some h
  have h0 := hc 0 hn
  have e : a.add 0 = a := by simp [Addr.add]
  rw [e, List.getElem?_eq_getElem (by omega)] at h0
  refine ⟨?_, World.block_lt_of_cell? w _ h0⟩
  cases hs : a.spot with
  | none => rfl
  | some s =>
    simp only [World.cell?] at h0
    split at h0
    · simp [hs] at h0
    · cases h0
/-- As many as are told, one by one. -/
theorem list_of {α : Type} {p : Nat → α → Prop} : ∀ n : Nat, (∀ i, i < n → ∃ x, p i x) → ∃ l : List α, l.length = n ∧ ∀ i x, l[i]? = some x → p i x
  | 0, _ => ⟨[], rfl, fun i x h => by cases i <;> cases h⟩
  | n + 1, h => by
    obtain ⟨l, hl, hp⟩ := list_of n fun i hi => h i (by omega)
    obtain ⟨x, hx⟩ := h n (by omega)
    refine ⟨l ++ [x], by simp [hl], fun i y hy => ?_⟩
    rw [List.getElem?_append] at hy
    split at hy
    · exact hp i y hy
    · have hi : i - l.length = 0 := by
        rcases Nat.eq_zero_or_pos (i - l.length) with h0 | h0
        · exact h0
        · rw [List.getElem?_eq_none (by simp; omega)] at hy; cases hy
      rw [hi] at hy
      injection hy with hy
      subst hy
      have : i = n := by omega
      subst this
      exact hx
theorem VIn.all {w : World} {B : Nat} {p : Nat → Nat → Val → Prop} (hm : ∀ i n m x, n ≤ m → p i n x → p i m x) : ∀ n : Nat, (∀ i, i < n → ∃ m x, p i m x) → ∃ m, ∀ i, i < n → ∃ x, p i m x
  | 0, _ => ⟨0, fun i h => absurd h (by omega)⟩
  | n + 1, h => by
    obtain ⟨m, hp⟩ := VIn.all (w := w) (B := B) hm n fun i hi => h i (by omega)
    obtain ⟨m', x, hx⟩ := h n (by omega)
    refine ⟨max m m', fun i hi => ?_⟩
    rcases Nat.lt_or_ge i n with h | h
    · obtain ⟨y, hy⟩ := hp i h
      exact ⟨y, hm i m _ y (by omega) hy⟩
    · obtain rfl : i = n := by omega
      exact ⟨x, hm i m' _ x (by omega) hx⟩
end Go.Proofs.YthaikagelloeoaaDoor
