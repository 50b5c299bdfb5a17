/- Rows of the call's own, part by part; what lies where it lay. -/
import Derived.Test.YtinodpaacnnjcaaWords
namespace Go.Proofs.Ytinodpaacnnjcaa
open Go.RowKit

/-- All that reads so is as it was. -/
def SameAt (S : Nat → Prop) (w w' : World) : Prop := ∀ p : Addr, S p.block → w'.cell? p = w.cell? p ∧ w'.frozen? p = w.frozen? p
theorem SameAt.refl (S : Nat → Prop) (w : World) : SameAt S w w := fun _ _ => ⟨rfl, rfl⟩
theorem SameAt.set {S : Nat → Prop} {w w' : World} (h : SameAt S w w') {p : Addr} (hp : ∀ g, S g → g ≠ p.block) (u : Value) : SameAt S w (w'.setCell p u) := fun q hq => by
  have e : (w'.setCell p u).heap[q.block]? = w'.heap[q.block]? := Below.heap_setCell _ _ _ _ (hp _ hq)
  exact ⟨(World.cell?_of_block e).trans (h q hq).1, (World.frozen?_of_block e).trans (h q hq).2⟩
theorem SameAt.trans {S : Nat → Prop} {a b c : World} (h : SameAt S a b) (k : SameAt S b c) : SameAt S a c := fun p hp => ⟨(k p hp).1.trans (h p hp).1, (k p hp).2.trans (h p hp).2⟩
/-- The blocks from one on, up to another one, but for one. -/
def Span (lo hi : Nat) (row : Option Nat) (g : Nat) : Prop := lo ≤ g ∧ g < hi ∧ some g ≠ row
theorem SameAt.below {w w' : World} {S : Nat → Prop} (hb : Below w.heap.size w w') (hS : ∀ g, S g → g < w.heap.size) : SameAt S w w' :=
  fun _ hp => ⟨hb.cell (hS _ hp), hb.frozen (hS _ hp)⟩
theorem SameAt.grown {w w' : World} {S : Nat → Prop} {row : Option Nat} (hg : w.grownBy w' row) (hS : ∀ g, S g → g < w.heap.size ∧ some g ≠ row) : SameAt S w w' :=
  fun p hp => ⟨World.cell?_of_block (hg.block p.block (hS _ hp).1 (hS _ hp).2), World.frozen?_of_block (hg.block p.block (hS _ hp).1 (hS _ hp).2)⟩
theorem Span.none {lo hi : Nat} {row : Option Nat} {g : Nat} (h : Span lo hi row g) : Span lo hi none g := ⟨h.1, h.2.1, by simp⟩
/-! rows of values, of members -/
/-- A row's part of 'size' cells, by a word for each part. -/
def RowsO {α : Type} (size : Nat) (q : List Value → α → Prop) (xs : List Value) (l : List α) : Prop :=
  xs.length = l.length * size ∧ ∀ (j : Nat) (x : α), l[j]? = some x → q ((xs.drop (j * size)).take size) x
theorem RowsO.nil {α : Type} (size : Nat) (q : List Value → α → Prop) : RowsO size q [] [] := ⟨by simp, fun j x h => by simp at h⟩
theorem RowsO.mono {α : Type} {size : Nat} {q q' : List Value → α → Prop} {xs : List Value} {l : List α} (h : RowsO size q xs l) (hq : ∀ ds x, q ds x → q' ds x) : RowsO size q' xs l := ⟨h.1, fun j x hx => hq _ _ (h.2 j x hx)⟩
theorem RowsO.snoc {α : Type} {size : Nat} {q : List Value → α → Prop} {xs ds : List Value} {l : List α} {x : α} (h : RowsO size q xs l) (h6 : ds.length = size) (hx : q ds x) : RowsO size q (xs ++ ds) (l ++ [x]) := by
  have hl := h.1
  refine ⟨by rw [List.length_append, List.length_append, hl, h6, Nat.add_mul]; simp, fun j y hj => ?_⟩
  rcases Nat.lt_or_ge j l.length with hlt | hge
  · rw [List.getElem?_append_left hlt] at hj
    have := h.2 j y hj
    have h1 : (j + 1) * size ≤ l.length * size := Nat.mul_le_mul_right _ hlt
    rw [Nat.add_mul] at h1
    rwa [List.drop_append_of_le_length (by omega), List.take_append_of_le_length (by rw [List.length_drop]; omega)]
  · have hj2 : j = l.length := by
      have := (List.getElem?_eq_some_iff.1 hj).1
      simp at this; omega
    subst hj2
    rw [List.getElem?_append_right (Nat.le_refl _)] at hj
    simp at hj
    subst hj
    rw [← hl, List.drop_append_of_le_length (Nat.le_refl _), List.drop_length, List.nil_append, List.take_of_length_le (by omega)]
    exact hx
/-- What a row of the call's own holds, part by part. -/
theorem own_parts {α : Type} {w : World} {base size : Nat} {e : TypeId} {A : Option Addr} {c : Nat} {xs : List Value} {l : List α} {q : List Value → α → Prop} (hown : w.ownsRow base e size (.slice A l.length c) l.length xs) (h : RowsO size q xs l) :
    ∀ (j : Nat) (x : α), l[j]? = some x → ∃ g ds, A = some ⟨g, 0, none⟩ ∧ base ≤ g ∧ g < w.heap.size ∧ w.rangeAt g (0 + j * size) ds ∧ (∀ i, i < size → w.frozen? ⟨g, 0 + j * size + i, none⟩ = false) ∧ q ds x := by
  intro j x hj
  have hlt := (List.getElem?_eq_some_iff.1 hj).1
  rcases hown.2 with ⟨_, h0⟩ | ⟨g, cap, cur, hv, hb, hg, hnc, _, hcs, htake⟩
  · omega
  · injection hv with hA _ _
    refine ⟨g, _, hA, hb, (Array.getElem?_eq_some_iff.1 hg).1, fun i u hu => ?_, fun i hi => ?_, h.2 j x hj⟩
    · rw [List.getElem?_take] at hu
      split at hu
      · rw [List.getElem?_drop] at hu
        rw [show 0 + j * size + i = j * size + i by omega, cell_of_row w g (j * size + i) cur e (0, 0) hg]
        rw [← htake, List.getElem?_take] at hu
        split at hu
        · simpa using hu
        · cases hu
      · cases hu
    · unfold World.frozen?
      rw [hg]
      simp

/-- A round that appends what it made itself. -/
theorem rows_step {α : Type} {P : World → (Nat → Prop) → List Value → α → Prop} (hP : ∀ {w w' : World} {S S' : Nat → Prop}, (∀ g, S g → S' g) → SameAt S w w' → ∀ {ds x}, P w S ds x → P w' S' ds x)
    {lo size W : Nat} {wr w4 w5 : World} {out v' : Value} {xs ds : List Value} {l : List α} {x : α} {o : Obj} (hold : RowsO size (P wr (Span lo wr.heap.size out.ownBlock)) xs l)
    (hown : ∀ k, out.ownBlock = some k → lo ≤ k ∧ k < wr.heap.size) (b4 : Below wr.heap.size wr w4) (hW : wr.heap.size ≤ W) (hlo : lo ≤ wr.heap.size) (hnew : P w4 (Span W w4.heap.size none) ds x) (hds : ds.length = size)
    (hg : (w4.alloc o).grownBy w5 out.ownBlock) (hat : v'.ownBlock = out.ownBlock ∨ v'.ownBlock = some (w4.alloc o).heap.size) :
    RowsO size (P w5 (Span lo w5.heap.size v'.ownBlock)) (xs ++ ds) (l ++ [x]) := by
  have h1 := b4.size
  have h2 := hg.size
  rw [World.size_alloc] at h2 hat
  refine (hold.mono fun ds x hx => hP (fun g hg' => ?_) (fun p hp => ?_) hx).snoc hds (hP (fun g hg' => ?_) (fun p hp => ?_) hnew)
  · refine ⟨hg'.1, by have := hg'.2.1; omega, ?_⟩
    rcases hat with e | e
    · rw [e]; exact hg'.2.2
    · rw [e]; intro h; injection h with h; have := hg'.2.1; omega
  · have hk := hg.block p.block (by rw [World.size_alloc]; have := hp.2.1; omega) hp.2.2
    have hk2 : w5.heap[p.block]? = wr.heap[p.block]? := by
      rw [hk, heap_alloc_old w4 o (by have := hp.2.1; omega), b4.block p.block hp.2.1]
    exact ⟨World.cell?_of_block hk2, World.frozen?_of_block hk2⟩
  · refine ⟨by have := hg'.1; omega, by have := hg'.2.1; omega, ?_⟩
    rcases hat with e | e
    · rw [e]; intro h; have := (hown g h.symm).2; have := hg'.1; omega
    · rw [e]; intro h; injection h with h; have := hg'.2.1; omega
  · have hne : some p.block ≠ out.ownBlock := fun h => by have := (hown _ h.symm).2; have := hp.1; omega
    have hk := hg.block p.block (by rw [World.size_alloc]; have := hp.2.1; omega) hne
    have hk2 : w5.heap[p.block]? = w4.heap[p.block]? := by rw [hk, heap_alloc_old w4 o hp.2.1]
    exact ⟨World.cell?_of_block hk2, World.frozen?_of_block hk2⟩

theorem grown_alloc {a w : World} {row : Option Nat} (h : a.grownBy w row) (o : Obj) : a.grownBy (w.alloc o) row := h.trans (World.grownBy_alloc w o row)
theorem grown_drew {a w : World} {row : Option Nat} (h : a.grownBy w row) : a.grownBy w.drew row := ⟨h.os, h.tape, h.output, h.size, h.block⟩
theorem grown_below3 {a w w' : World} {row : Option Nat} (h : a.grownBy w row) (hb : Below w.heap.size w w') : a.grownBy w' row :=
  ⟨hb.os.trans h.os, hb.tape.trans h.tape, hb.output.trans h.output, Nat.le_trans h.size hb.size, fun k hk hne => (hb.block k (Nat.lt_of_lt_of_le hk h.size)).trans (h.block k hk hne)⟩
theorem grown_row {a w w' : World} {row row' : Option Nat} (h : a.grownBy w row) (hg : w.grownBy w' row') (hr : ∀ k, row' = some k → a.heap.size ≤ k) : a.grownBy w' row :=
  ⟨hg.os.trans h.os, hg.tape.trans h.tape, hg.output.trans h.output, Nat.le_trans h.size hg.size, fun k hk hne => (hg.block k (Nat.lt_of_lt_of_le hk h.size) (fun e => by have := hr k e.symm; omega)).trans (h.block k hk hne)⟩
theorem grown_cell {a w : World} {row : Option Nat} (h : a.grownBy w row) (g o : Nat) (hg : g < a.heap.size) (hne : some g ≠ row) : w.cell? ⟨g, o, none⟩ = a.cell? ⟨g, o, none⟩ ∧ w.frozen? ⟨g, o, none⟩ = a.frozen? ⟨g, o, none⟩ :=
  ⟨World.cell?_of_block (h.block g hg hne), World.frozen?_of_block (h.block g hg hne)⟩
theorem grown_cellA {a w : World} {row : Option Nat} (h : a.grownBy w row) (p : Addr) (hg : p.block < a.heap.size) (hne : some p.block ≠ row) : w.cell? p = a.cell? p ∧ w.frozen? p = a.frozen? p :=
  ⟨World.cell?_of_block (h.block p.block hg hne), World.frozen?_of_block (h.block p.block hg hne)⟩
theorem grown_set {a w : World} {b o : Nat} (h : a.grownBy w (some b)) (u : Value) : a.grownBy (w.setCell ⟨b, o, none⟩ u) (some b) :=
  ⟨h.os, h.tape, h.output, by simpa [World.setCell] using h.size, fun k hk hne => (Below.heap_setCell w _ u k (fun e => hne (by rw [e]))).trans (h.block k hk hne)⟩
theorem own_set {w : World} {base size n : Nat} {e : TypeId} {v : Value} {xs : List Value} (h : w.ownsRow base e size v n xs) {b o : Nat} (hb : b < base) (u : Value) : (w.setCell ⟨b, o, none⟩ u).ownsRow base e size v n xs := by
  refine ⟨h.1, ?_⟩
  rcases h.2 with h0 | ⟨g, cap, cur, hv, hg, hh, r⟩
  · exact .inl h0
  · exact .inr ⟨g, cap, cur, hv, hg, (Below.heap_setCell w _ u g (by show g ≠ b; omega)).trans hh, r⟩
end Go.Proofs.Ytinodpaacnnjcaa
