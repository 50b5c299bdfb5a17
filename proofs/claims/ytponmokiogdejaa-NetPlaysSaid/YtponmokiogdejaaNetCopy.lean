import Derived.Test.YtponmokiogdejaaNetCount
namespace Go.Proofs.Ytponmokiogdejaa
open Go.RowKit
set_option linter.unusedSimpArgs false
set_option linter.unusedVariables false

/-- A net of its own. -/
def NewNet (w : World) (L : List Let) (e : Ending) (w' : World) : Prop := ∃ g, e = .returned (.pointer (some ⟨g, 0, none⟩)) ∧ w.heap.size ≤ g ∧ NetO w' (fun k => w.heap.size ≤ k ∧ k < w'.heap.size) g L ∧ Below w.heap.size w w'
theorem net_boxed {w w7 : World} {L : List Let} {A : Option Addr} {c : Nat} {xs : List Value} (hown : w7.ownsRow w.heap.size 47 3 (.slice A L.length c) L.length xs) (hrow : RowsO 3 (LetW w7 (Span w.heap.size w7.heap.size (Value.slice A L.length c).ownBlock)) xs L) (b7 : Below w.heap.size w w7) :
    NewNet w L (.returned (.pointer (some ⟨w7.heap.size, 0, none⟩))) (w7.alloc (.cells #[.slice A L.length c] 27)) := by
  have o1 : (w7.alloc (.cells #[.slice A L.length c] 27)).heap[w7.heap.size]? = some (.cells #[.slice A L.length c] 27 (0, 0)) := heap_alloc_new w7 _
  have s7 := b7.size
  refine ⟨w7.heap.size, rfl, s7, ⟨A, c, xs, ?_, frozen_of_row _ _ 0 _ _ o1, (own_base hown (Nat.zero_le _)).alloc _, hrow.mono fun ds x hx => hx.1.keep (fun g hg => ?_) (fun p hp => ?_), ?_, ?_, fun k hk => ?_, fun k hk => hk.2⟩, b7.alloc s7 _⟩
  · rw [cell_of_row _ _ 0 _ _ (0, 0) o1]; rfl
  · have g1 := hg.1
    have g2 := hg.2.1
    exact ⟨⟨g1, by rw [World.size_alloc]; omega⟩, hg.2.2, by omega⟩
  · have hk := heap_alloc_old w7 (.cells #[.slice A L.length c] 27) hp.2.1
    exact ⟨World.cell?_of_block hk, World.frozen?_of_block hk⟩
  · exact ⟨s7, by rw [World.size_alloc]; omega⟩
  · rw [World.size_alloc]; omega
  · have h := hown.lt k hk
    exact ⟨⟨h.1, by rw [World.size_alloc]; omega⟩, by omega⟩
set_option maxRecDepth 100000 in
set_option maxHeartbeats 4000000 in
theorem copy_net (M : Nat → Prop) (g0 : Nat) (L : List Let) (w : World) (h : NetO w M g0 L) (hL : L.length ≤ 1000000) :
    Calls Try.prog 28 #[.pointer (some ⟨g0, 0, none⟩)] w (NewNet w L) := by
  have HC := Lib.hid (all_any M g0 L w h hL)
  clear h
  go_enter Try.func28, Try.ntmps28
  go_wp2_with fail
  ((with_reducible refine HC.out.mono ?_); rintro e w7 ⟨v, xs, rfl, hown, hrow, b7⟩)
  obtain ⟨A, c, rfl, _, _, _⟩ := own_slice hown
  have HN := Lib.hid (net_boxed hown hrow b7)
  clear hown hrow b7 HC
  go_wp2
  go_ret
  exact HN.out
end Go.Proofs.Ytponmokiogdejaa
