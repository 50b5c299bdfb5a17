/- A row of bytes that is written cell by cell: words of our own (FrameRow and FrameLaws5 hold the same for their seat). -/
import Derived.Test.YtponmokiogdejaaNetAll
namespace Go.Proofs.Ytponmokiogdejaa
open Go.RowKit Crc

/-- A row of numbers that may be written. -/
def IntRow (w : World) (g o n : Nat) : Prop := ∀ j, j < n → (∃ x : Int, w.cell? ⟨g, o + j, none⟩ = some (.int .u8 x)) ∧ w.frozen? ⟨g, o + j, none⟩ = false
theorem IntRow.set {w : World} {g o n j : Nat} (h : IntRow w g o n) (x : Int) : IntRow (w.setCell ⟨g, o + j, none⟩ (.int .u8 x)) g o n := by
  intro i hi
  obtain ⟨⟨y, hy⟩, hf⟩ := h i hi
  rw [World.frozen?_setCell]
  refine ⟨?_, hf⟩
  by_cases e : j = i
  · subst e
    exact ⟨x, World.cell?_setCell_same' _ _ _ (by rw [hy]; rfl)⟩
  · exact ⟨y, by rw [World.cell?_setCell_other _ _ _ _ (fun h => e (by injection h with _ h; omega))]; exact hy⟩
/-- Where a row of the call's own lies. -/
theorem Own.where {w : World} {B : Nat} {A : Option Addr} {l : List UInt8} (h : Own w B A l) : ∃ g o, (0 < l.length → A = some ⟨g, o, none⟩) ∧ (B ≤ g ∧ (0 < l.length → g < w.heap.size)) ∧ IntRow w g o l.length := by
  by_cases hl : 0 < l.length
  · obtain ⟨g, o, e, hb, hlt, hc⟩ := h hl
    exact ⟨g, o, fun _ => e, ⟨hb, fun _ => hlt⟩, fun j hj => ⟨⟨_, (hc j hj).1⟩, (hc j hj).2⟩⟩
  · exact ⟨B, 0, fun h => absurd h hl, ⟨Nat.le_refl _, fun h => absurd h hl⟩, fun j hj => absurd hj (by omega)⟩
theorem grown_set2 {a w : World} {g i : Nat} (h : a.grownBy w (some g)) (u : Value) : a.grownBy (w.setCell ⟨g, i, none⟩ u) (some g) :=
  ⟨h.os, h.tape, h.output, by simpa [World.setCell] using h.size, fun k hk hne => (Below.heap_setCell w _ u k (fun e => hne (by rw [e]))).trans (h.block k hk hne)⟩
/-- What turns one block leaves what is not it. -/
theorem Own.grown {w W : World} {B g : Nat} {A : Option Addr} {l : List UInt8} (h : Own w B A l) (hg : w.grownBy W (some g)) (hne : g < B) : Own W B A l := by
  have hb : ∀ b o, b < w.heap.size → b ≠ g → W.cell? ⟨b, o, none⟩ = w.cell? ⟨b, o, none⟩ ∧ W.frozen? ⟨b, o, none⟩ = w.frozen? ⟨b, o, none⟩ := fun b o hl hn => by
    have h : W.heap[b]? = w.heap[b]? := hg.block b hl (fun e => hn (by injection e))
    exact ⟨World.cell?_of_block h, World.frozen?_of_block h⟩
  exact h.keep hg.size fun b o hB hl => hb b o hl (by omega)
theorem grown_any {a W : World} {B g : Nat} (hg : a.grownBy W (some g)) (hB : B ≤ a.heap.size) (h : B ≤ g) : Below B a W := (Below.refl B a).grown hg hB (fun k e => by injection e with e; omega)
/-- One block is turned, if there is something in it. -/
def Turned (a W : World) (g n : Nat) : Prop := a.grownBy W (some g) ∧ (n = 0 → W = a)
theorem Turned.refl (a : World) (g n : Nat) : Turned a a g n := ⟨World.grownBy.refl _ _, fun _ => rfl⟩
theorem Turned.set {a W : World} {g n i j : Nat} (h : Turned a W g n) (hj : j < n) (u : Value) : Turned a (W.setCell ⟨g, i, none⟩ u) g n := ⟨grown_set2 h.1 u, fun e => absurd e (by omega)⟩
theorem Turned.below {a W : World} {B g n : Nat} (h : Turned a W g n) (hB : B ≤ a.heap.size) (hg : 0 < n → B ≤ g) : Below B a W := by
  rcases Nat.eq_zero_or_pos n with h0 | h0
  · rw [h.2 h0]; exact Below.refl _ _
  · exact grown_any h.1 hB (hg h0)
theorem Own.turned {w W : World} {B g n : Nat} {A : Option Addr} {l : List UInt8} (h : Own w B A l) (ht : Turned w W g n) (hg : 0 < n → g < B) : Own W B A l := by
  rcases Nat.eq_zero_or_pos n with h0 | h0
  · rw [ht.2 h0]; exact h
  · exact h.grown ht.1 (hg h0)
theorem IntRow.below {w W : World} {g o n : Nat} (h : IntRow w g o n) (hb : Below w.heap.size w W) (hl : 0 < n → g < w.heap.size) : IntRow W g o n := fun j hj => by
  obtain ⟨⟨x, hx⟩, hf⟩ := h j hj
  have := hl (by omega)
  exact ⟨⟨x, (hb.cell (p := ⟨g, o + j, none⟩) this).trans hx⟩, (hb.frozen (p := ⟨g, o + j, none⟩) this).trans hf⟩


theorem Turned.cellA {a W : World} {g n b o : Nat} (h : Turned a W g n) (hb : b < a.heap.size) (hne : 0 < n → b ≠ g) : W.cell? ⟨b, o, none⟩ = a.cell? ⟨b, o, none⟩ := by
  rcases Nat.eq_zero_or_pos n with h0 | h0
  · rw [h.2 h0]
  · exact World.cell?_of_block (h.1.block b hb (fun e => hne h0 (by injection e)))
/-- A net that what is turned is none of. -/
theorem St.turned {b : Nat} {w : World} {g0 : Nat} {L : List Let} {W W' : World} {g n : Nat} (h : St b w g0 L W) (ht : Turned W W' g n) (hg : 0 < n → g < b) : St b W' g0 L W' := by
  obtain ⟨M, h1, h2, h3⟩ := h
  refine ⟨M, ?_, Below.refl _ _, h3⟩
  rcases Nat.eq_zero_or_pos n with h0 | h0
  · rw [ht.2 h0]; exact h1
  · have hg := hg h0
    exact h1.keep (S := fun k => k = g) ⟨ht.1.os, ht.1.tape, ht.1.output, ht.1.size, fun k hk hne => ht.1.block k hk (fun e => hne (by injection e))⟩ (fun k hk e => by have := h3 k hk; omega)
end Go.Proofs.Ytponmokiogdejaa
