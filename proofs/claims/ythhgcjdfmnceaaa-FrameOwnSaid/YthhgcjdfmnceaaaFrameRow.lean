import Derived.Test.YthhgcjdfmnceaaaFrameKnown
namespace Go.Proofs.Ythhgcjdfmnceaaa
open Go.RowKit Crc

/-- A row of numbers that may be written. -/
def IntRow (w : World) (g o n : Nat) : Prop := ∀ j, j < n → (∃ x : Int, w.cell? ⟨g, o + j, none⟩ = some (.int .u8 x)) ∧ w.frozen? ⟨g, o + j, none⟩ = false
theorem IntRow.set {w : World} {g o n j : Nat} (h : IntRow w g o n) (x : Int) : IntRow (w.setCell ⟨g, o + j, none⟩ (.int .u8 x)) g o n := by
  intro i hi
  obtain ⟨⟨y, hy⟩, hf⟩ := h i hi
  rw [World.frozen?_setCell]
  refine ⟨?_, hf⟩
  by_cases e : j = i
  · subst e
    exact ⟨x, World.cell?_setCell_same' _ _ _ (by rw [hy]; rfl)⟩
  · exact ⟨y, by rw [World.cell?_setCell_other _ _ _ _ (fun h => e (by injection h with _ h; omega))]; exact hy⟩
/-- Where a row of the call's own lies. -/
theorem Own.where {w : World} {B : Nat} {A : Option Addr} {l : List UInt8} (h : Own w B A l) : ∃ g o, (0 < l.length → A = some ⟨g, o, none⟩) ∧ (B ≤ g ∧ (0 < l.length → g < w.heap.size)) ∧ IntRow w g o l.length := by
  by_cases hl : 0 < l.length
  · obtain ⟨g, o, e, hb, hlt, hc⟩ := h hl
    exact ⟨g, o, fun _ => e, ⟨hb, fun _ => hlt⟩, fun j hj => ⟨⟨_, (hc j hj).1⟩, (hc j hj).2⟩⟩
  · exact ⟨B, 0, fun h => absurd h hl, ⟨Nat.le_refl _, fun h => absurd h hl⟩, fun j hj => absurd hj (by omega)⟩
theorem grown_set2 {a w : World} {g i : Nat} (h : a.grownBy w (some g)) (u : Value) : a.grownBy (w.setCell ⟨g, i, none⟩ u) (some g) :=
  ⟨h.os, h.tape, h.output, by simpa [World.setCell] using h.size, fun k hk hne => (Below.heap_setCell w _ u k (fun e => hne (by rw [e]))).trans (h.block k hk hne)⟩
/-- What turns one block leaves what is not it. -/
theorem Own.grown {w W : World} {B g : Nat} {A : Option Addr} {l : List UInt8} (h : Own w B A l) (hg : w.grownBy W (some g)) (hne : g < B) : Own W B A l := by
  have hb : ∀ b o, b < w.heap.size → b ≠ g → W.cell? ⟨b, o, none⟩ = w.cell? ⟨b, o, none⟩ ∧ W.frozen? ⟨b, o, none⟩ = w.frozen? ⟨b, o, none⟩ := fun b o hl hn => by
    have h : W.heap[b]? = w.heap[b]? := hg.block b hl (fun e => hn (by injection e))
    exact ⟨World.cell?_of_block h, World.frozen?_of_block h⟩
  exact h.keep hg.size fun b o hB hl => hb b o hl (by omega)
end Go.Proofs.Ythhgcjdfmnceaaa
