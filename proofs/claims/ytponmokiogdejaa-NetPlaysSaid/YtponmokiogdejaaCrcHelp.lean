import Derived.Test.YtponmokiogdejaaCrcOpen
namespace Go.Proofs.Ytponmokiogdejaa
open Go.RowKit Crc

/-- The call answers bytes in memory of its own, read as a slice. -/
def MadeA (w : World) (l : List UInt8) (e : Ending) (w' : World) : Prop :=
  ∃ A c, e = .returned (.slice A l.length c) ∧ At w' w'.heap.size 1 A l.length (l.map u8v) ∧ l.length ≤ c ∧ Below w.heap.size w w'
theorem MadeB.at {w w' : World} {l : List UInt8} {e : Ending} (h : MadeB w l e w') : MadeA w l e w' := by
  obtain ⟨v, rfl, hown, hb⟩ := h
  obtain ⟨A, c, rfl, hc, _, hat⟩ := own_slice hown
  exact ⟨A, c, rfl, hat, hc, hb⟩
theorem seal_at (A : Option Addr) (c B : Nat) (l : List UInt8) (w : World) (h1 : At w B 1 A l.length (l.map u8v)) (hB : B ≤ w.heap.size) (hm : l.length + 4 ≤ 140737488355328) :
    Calls Try.prog 48 #[.slice A l.length c] w (MadeA w (seal_ l)) := (seal_any A c B l w h1 hB hm).mono fun _ _ h => h.at
theorem open_at (A : Option Addr) (c B : Nat) (l : List UInt8) (w : World) (h1 : At w B 1 A l.length (l.map u8v)) (hB : B ≤ w.heap.size) (hc : l.length ≤ c) (hm : l.length ≤ 140737488355328) :
    Calls Try.prog 51 #[.slice A l.length c] w fun e w' => ∃ A' c', e = .returned (.tuple #[.slice A' (opened l).length c', .bool (sealed l)]) ∧ At w' w'.heap.size 1 A' (opened l).length ((opened l).map u8v) ∧ (opened l).length ≤ c' ∧ Below w.heap.size w w' := by
  refine (open_any A c B l w h1 hB hc hm).mono fun e w' ⟨v, he, hown, hb⟩ => ?_
  obtain ⟨A, c, rfl, hc, _, hat⟩ := own_slice hown
  exact ⟨A, c, he, hat, hc, hb⟩

theorem seal_take (l : List UInt8) : (seal_ l).take ((seal_ l).length - 4) = l := by
  rw [seal_len]
  unfold seal_
  rw [show l.length + 4 - 4 = l.length from by omega]
  simp
theorem sealed_seal (l : List UInt8) : sealed (seal_ l) = true := by
  unfold sealed
  rw [seal_take, seal_len]
  simp
theorem opened_seal (l : List UInt8) : opened (seal_ l) = l := by
  unfold opened
  rw [sealed_seal, if_pos rfl, seal_take]
theorem seal_opened {l : List UInt8} (h : sealed l = true) : seal_ (opened l) = l := by
  unfold opened
  rw [h, if_pos rfl]
  unfold sealed at h
  simp only [Bool.and_eq_true, beq_iff_eq] at h
  exact h.2

end Go.Proofs.Ytponmokiogdejaa
