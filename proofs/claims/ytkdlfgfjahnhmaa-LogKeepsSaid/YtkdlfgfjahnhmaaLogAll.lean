/- The five trees, and one of them. -/
import Derived.Test.YtkdlfgfjahnhmaaLogTPut2
namespace Go.Proofs.Ytkdlfgfjahnhmaa
open Go.RowKit
set_option linter.unusedSimpArgs false
set_option linter.unusedVariables false
/-- Five trees in a row: no root, and four that differ. -/
def TreesV (p1 p2 p3 p4 : Nat) : List Value := [.pointer none, .nilFunc, .pointer (some ⟨p1, 0, none⟩), .nilFunc, .pointer (some ⟨p2, 0, none⟩), .nilFunc, .pointer (some ⟨p3, 0, none⟩), .nilFunc, .pointer (some ⟨p4, 0, none⟩), .nilFunc]
def TreesMade (w : World) (e : Ending) (w' : World) : Prop := ∃ b p1 p2 p3 p4, e = .returned (.slice (some ⟨b, 0, none⟩) 5 5) ∧ w'.heap[b]? = some (.cells (TreesV p1 p2 p3 p4).toArray 40 (0, 0)) ∧ w.heap.size ≤ b ∧ (p1 ≠ p2 ∧ p1 ≠ p3 ∧ p1 ≠ p4 ∧ p2 ≠ p3 ∧ p2 ≠ p4 ∧ p3 ≠ p4) ∧ Below w.heap.size w w'
def kC : ByteArray := ⟨#[99]⟩
/-- The boxes of 'trees': a tree without a root, the value, two trees. -/
structure Boxes (W : World) (q1 q2 q3 q4 g1 g2 : Nat) : Prop where
  b1 : W.heap[q1]? = some (.cells #[.pointer none, .nilFunc] 40 (0, 0))
  b2 : W.heap[q2]? = some (.cells #[.int .i64 3, .bool false, .int .i64 1, .string ⟨#[]⟩, .slice none 0 0, .slice none 0 0] 69 (0, 0))
  b3 : W.heap[q3]? = some (.cells #[.pointer (some ⟨g1, 0, none⟩), .nilFunc] 40 (0, 0))
  b4 : W.heap[q4]? = some (.cells #[.pointer (some ⟨g2, 0, none⟩), .nilFunc] 40 (0, 0))
theorem row2 {w : World} {b : Nat} {x0 x1 : Value} {t : TypeId} (h : w.heap[b]? = some (.cells #[x0, x1] t (0, 0))) : w.cell? ⟨b, 0, none⟩ = some x0 ∧ w.cell? ⟨b, 1, none⟩ = some x1 := by
  refine ⟨?_, ?_⟩
  all_goals (rw [cell_of_row _ _ _ _ _ (0, 0) h]; rfl)
theorem row6 {w : World} {b : Nat} {x0 x1 x2 x3 x4 x5 : Value} {t : TypeId} (h : w.heap[b]? = some (.cells #[x0, x1, x2, x3, x4, x5] t (0, 0))) :
    w.cell? ⟨b, 0, none⟩ = some x0 ∧ w.cell? ⟨b, 1, none⟩ = some x1 ∧ w.cell? ⟨b, 2, none⟩ = some x2 ∧ w.cell? ⟨b, 3, none⟩ = some x3 ∧ w.cell? ⟨b, 4, none⟩ = some x4 ∧ w.cell? ⟨b, 5, none⟩ = some x5 := by
  refine ⟨?_, ?_, ?_, ?_, ?_, ?_⟩
  all_goals (rw [cell_of_row _ _ _ _ _ (0, 0) h]; rfl)
theorem Boxes.then {W W' : World} {q1 q2 q3 q4 g1 g2 : Nat} (h : Boxes W q1 q2 q3 q4 g1 g2) (hb : Below W.heap.size W W') : Boxes W' q1 q2 q3 q4 g1 g2 := by
  have k := fun q o (e : W.heap[q]? = some o) => (hb.block q (Array.getElem?_eq_some_iff.1 e).1).trans e
  exact ⟨k _ _ h.b1, k _ _ h.b2, k _ _ h.b3, k _ _ h.b4⟩
theorem Boxes.cells {W : World} {q1 q2 q3 q4 g1 g2 : Nat} (h : Boxes W q1 q2 q3 q4 g1 g2) :
    (W.cell? ⟨q1, 0, none⟩ = some (.pointer none) ∧ W.cell? ⟨q1, 1, none⟩ = some .nilFunc) ∧
    (W.cell? ⟨q2, 0, none⟩ = some (.int .i64 3) ∧ W.cell? ⟨q2, 1, none⟩ = some (.bool false) ∧ W.cell? ⟨q2, 2, none⟩ = some (.int .i64 1) ∧ W.cell? ⟨q2, 3, none⟩ = some (.string ⟨#[]⟩) ∧ W.cell? ⟨q2, 4, none⟩ = some (.slice none 0 0) ∧ W.cell? ⟨q2, 5, none⟩ = some (.slice none 0 0)) ∧
    (W.cell? ⟨q3, 0, none⟩ = some (.pointer (some ⟨g1, 0, none⟩)) ∧ W.cell? ⟨q3, 1, none⟩ = some .nilFunc) ∧
    (W.cell? ⟨q4, 0, none⟩ = some (.pointer (some ⟨g2, 0, none⟩)) ∧ W.cell? ⟨q4, 1, none⟩ = some .nilFunc) := ⟨row2 h.b1, row6 h.b2, row2 h.b3, row2 h.b4⟩
theorem NodeIs.at {W : World} {lo g : Nat} {ks : List ByteArray} (h : NodeIs W lo g ks) : lo ≤ g ∧ g < W.heap.size := by
  obtain ⟨A, c, l1, _, hh, _⟩ := h
  exact ⟨l1, (Array.getElem?_eq_some_iff.1 hh).1⟩
set_option maxRecDepth 100000 in
set_option maxHeartbeats 8000000 in
theorem trees_any (w : World) : Calls Try.prog 11 #[] w (TreesMade w) := by
  have HA := Lib.hid (tput_first kA)
  have HB := Lib.hid fun (V : World) (g : Nat) (h : NodeIs V V.heap.size g (ks1 kA) ∨ ∃ lo, NodeIs V lo g (ks1 kA)) => (show Calls Try.prog 25 #[treeV (some ⟨g, 0, none⟩), .string kB, oneV] V (TreeMade V ks2) from h.elim (fun h => tput_second V h) (fun ⟨lo, h⟩ => tput_second V h))
  have HC := Lib.hid (tput_first kC)
  unfold TreeMade treeV oneV at HA
  have hka : (Value.string kA) = .string ⟨#[97]⟩ := rfl
  rw [hka] at HA
  clear hka
  unfold TreeMade treeV oneV at HB
  have hkb : kB = ⟨#[98]⟩ := rfl
  rw [hkb] at HB
  clear hkb
  unfold TreeMade treeV oneV kC at HC
  have g0 := heap_alloc2_old w (.cells #[.pointer none, .nilFunc] 40) (.cells #[.int .i64 3, .bool false, .int .i64 1, .string ⟨#[]⟩, .slice none 0 0, .slice none 0 0] 69)
  have g1 := heap_alloc2_new w (.cells #[.pointer none, .nilFunc] 40) (.cells #[.int .i64 3, .bool false, .int .i64 1, .string ⟨#[]⟩, .slice none 0 0, .slice none 0 0] 69)
  obtain ⟨W, hW⟩ : ∃ W, (w.alloc (.cells #[.pointer none, .nilFunc] 40)).alloc (.cells #[.int .i64 3, .bool false, .int .i64 1, .string ⟨#[]⟩, .slice none 0 0, .slice none 0 0] 69) = W := ⟨_, rfl⟩
  rw [hW] at g0 g1
  have hB : Below w.heap.size w W := by rw [← hW]; exact ((Below.refl _ w).alloc (Nat.le_refl _) _).alloc (by rw [zal]; omega) _
  have G0 := Lib.hid g0
  have G1 := Lib.hid g1
  have HW := Lib.hid hW
  have HBW := Lib.hid hB
  clear hW hB g0 g1
  go_enter Try.func11, Try.ntmps11
  go_wp2_with fail
  rw [HW.out]
  ((refine (HA.out _).mono ?_); rintro e w1 ⟨p1, rfl, hN1, b1⟩)
  have N1 := hN1.at
  have z1 := b1.size
  have r0 := (b1.block _ (Array.getElem?_eq_some_iff.1 G0.out).1).trans G0.out
  have r1 := (b1.block _ (Array.getElem?_eq_some_iff.1 G1.out).1).trans G1.out
  have R0 := Lib.hid r0
  have R1 := Lib.hid r1
  have HN1 := Lib.hid hN1
  obtain ⟨c0, c1⟩ := row2 r0
  obtain ⟨d0, d1, d2, d3, d4, d5⟩ := row6 r1
  clear r0 r1 hN1
  have q1 := heap_alloc_new w1 (.cells #[.pointer (some ⟨p1, 0, none⟩), .nilFunc] 40)
  obtain ⟨W1, hW1⟩ : ∃ W1, w1.alloc (.cells #[.pointer (some ⟨p1, 0, none⟩), .nilFunc] 40) = W1 := ⟨_, rfl⟩
  rw [hW1] at q1
  have bW1 : Below w1.heap.size w1 W1 := by rw [← hW1]; exact (Below.refl _ w1).alloc (Nat.le_refl _) _
  have zW1 : W1.heap.size = w1.heap.size + 1 := by rw [← hW1, zal]
  have Q0 := Lib.hid ((bW1.block _ (Array.getElem?_eq_some_iff.1 R0.out).1).trans R0.out)
  have Q1 := Lib.hid ((bW1.block _ (Array.getElem?_eq_some_iff.1 R1.out).1).trans R1.out)
  have Q2 := Lib.hid q1
  obtain ⟨e0, e1⟩ := row2 q1
  clear c0 c1 d0 d1 d2 d3 d4 d5 q1
  obtain ⟨d0, d1, d2, d3, d4, d5⟩ := row6 Q1.out
  have HN2 := Lib.hid (HN1.out.then bW1)
  have HKB := Lib.hid ((HBW.out.trans (b1.mono HBW.out.size)).trans (bW1.mono (Nat.le_trans HBW.out.size b1.size)))
  have HW1 := Lib.hid hW1
  have HZ1 := Lib.hid zW1
  clear zW1 bW1 b1 hW1 e0 e1 d0 d1 d2 d3 d4 d5
  obtain ⟨r0, r1⟩ := row2 R0.out
  obtain ⟨s0, s1, s2, s3, s4, s5⟩ := row6 R1.out
  have lt0 : w.heap.size < w1.heap.size := (Array.getElem?_eq_some_iff.1 R0.out).1
  have lt1 : w.heap.size + 1 < w1.heap.size := (Array.getElem?_eq_some_iff.1 R1.out).1
  have ne0 : w.heap.size ≠ w1.heap.size := by omega
  have ne1 : w.heap.size + 1 ≠ w1.heap.size := by omega
  go_wp2_with fail
  rw [HW1.out]
  refine (HB.out W1 p1 (.inr ⟨_, HN2.out⟩)).mono ?_
  rintro e w2 ⟨p2, rfl, hN3, b2⟩
  have N2 := hN3.at
  have k2 := HKB.out.trans (b2.mono HKB.out.size)
  have Q3 := Lib.hid ((b2.block _ (Array.getElem?_eq_some_iff.1 Q0.out).1).trans Q0.out)
  have Q4 := Lib.hid ((b2.block _ (Array.getElem?_eq_some_iff.1 Q1.out).1).trans Q1.out)
  have Q5 := Lib.hid ((b2.block _ (Array.getElem?_eq_some_iff.1 Q2.out).1).trans Q2.out)
  have K2 := Lib.hid k2
  have zb2 := b2.size
  clear r0 r1 s0 s1 s2 s3 s4 s5 lt0 lt1 ne0 ne1 k2 b2 hN3
  go_wp2_with fail
  have q4 := heap_alloc_new w2 (.cells #[.pointer (some ⟨p2, 0, none⟩), .nilFunc] 40)
  obtain ⟨W2, hW2⟩ : ∃ W2, w2.alloc (.cells #[.pointer (some ⟨p2, 0, none⟩), .nilFunc] 40) = W2 := ⟨_, rfl⟩
  rw [hW2] at q4
  rw [hW2]
  have bW2 : Below w2.heap.size w2 W2 := by rw [← hW2]; exact (Below.refl _ w2).alloc (Nat.le_refl _) _
  have zW2 : W2.heap.size = w2.heap.size + 1 := by rw [← hW2, zal]
  have BX : Boxes W2 w.heap.size (w.heap.size + 1) w1.heap.size w2.heap.size p1 p2 := ⟨(bW2.block _ (Array.getElem?_eq_some_iff.1 Q3.out).1).trans Q3.out, (bW2.block _ (Array.getElem?_eq_some_iff.1 Q4.out).1).trans Q4.out, (bW2.block _ (Array.getElem?_eq_some_iff.1 Q5.out).1).trans Q5.out, q4⟩
  have KW := K2.out.trans (bW2.mono (Nat.le_trans K2.out.size (Nat.le_refl _)))
  have KEEP : Hid (∀ V, Below W2.heap.size W2 V → _) := fun V hV => (BX.then hV).cells
  have LT : Hid (∀ V, Below W2.heap.size W2 V → w.heap.size < V.heap.size ∧ w.heap.size + 1 < V.heap.size ∧ w1.heap.size < V.heap.size ∧ w2.heap.size < V.heap.size) := fun V hV => by
    have l0 := (Array.getElem?_eq_some_iff.1 BX.b1).1
    have l1 := (Array.getElem?_eq_some_iff.1 BX.b2).1
    have l2 := (Array.getElem?_eq_some_iff.1 BX.b3).1
    have l3 := (Array.getElem?_eq_some_iff.1 BX.b4).1
    have := hV.size
    exact ⟨by omega, by omega, by omega, by omega⟩
  obtain ⟨⟨c0, c1⟩, ⟨d0, d1, d2, d3, d4, d5⟩, ⟨e0, e1⟩, f0, f1⟩ := KEEP.out W2 (Below.refl _ _)
  obtain ⟨l0, l1, l2, l3⟩ := LT.out W2 (Below.refl _ _)
  clear BX q4
  go_region_held3 (fun w' => w'.cell? ⟨w.heap.size, 0, none⟩ = some (.pointer none) ∧ w'.cell? ⟨w.heap.size, 1, none⟩ = some .nilFunc ∧ w'.cell? ⟨w.heap.size + 1, 0, none⟩ = some (.int .i64 3) ∧ w'.cell? ⟨w.heap.size + 1, 1, none⟩ = some (.bool false) ∧ w'.cell? ⟨w.heap.size + 1, 2, none⟩ = some (.int .i64 1) ∧ w'.cell? ⟨w.heap.size + 1, 3, none⟩ = some (.string ⟨#[]⟩) ∧ w'.cell? ⟨w.heap.size + 1, 4, none⟩ = some (.slice none 0 0) ∧ w'.cell? ⟨w.heap.size + 1, 5, none⟩ = some (.slice none 0 0) ∧ w'.cell? ⟨w1.heap.size, 0, none⟩ = some (.pointer (some ⟨p1, 0, none⟩)) ∧ w'.cell? ⟨w1.heap.size, 1, none⟩ = some .nilFunc ∧ w'.cell? ⟨w2.heap.size, 0, none⟩ = some (.pointer (some ⟨p2, 0, none⟩)) ∧ w'.cell? ⟨w2.heap.size, 1, none⟩ = some .nilFunc) (go_keep) (first
    | (go_at_call 25; (refine (HC.out _).mono ?_); rintro e w6 ⟨p4, rfl, hN6, b6⟩; have bb2 := bb.trans (b6.mono bb.size); have M4 := hN6.at; obtain ⟨⟨c0, c1⟩, ⟨d0, d1, d2, d3, d4, d5⟩, ⟨e0, e1⟩, f0, f1⟩ := KEEP.out w6 bb2; obtain ⟨l0, l1, l2, l3⟩ := LT.out w6 bb2; clear hN6)
    | (go_at_call 25; (refine (HC.out _).mono ?_); rintro e w5 ⟨p3, rfl, hN5, b5⟩; have bb : Below W2.heap.size W2 w5 := (Below.refl _ W2).drew.trans b5; have M3 := hN5.at; obtain ⟨⟨c0, c1⟩, ⟨d0, d1, d2, d3, d4, d5⟩, ⟨e0, e1⟩, f0, f1⟩ := KEEP.out w5 bb; obtain ⟨l0, l1, l2, l3⟩ := LT.out w5 bb; clear hN5))
  have z1 := HZ1.out
  have m3 : W2.heap.size ≤ p3 := M3.1
  have bF : Below w.heap.size w w6 := KW.trans (bb2.mono KW.size)
  have HBF := Lib.hid (bF.alloc bF.size (.cells (TreesV p1 p2 p3 p4).toArray 40))
  have HSF := Lib.hid bF.size
  have HD : Hid (p1 ≠ p2 ∧ p1 ≠ p3 ∧ p1 ≠ p4 ∧ p2 ≠ p3 ∧ p2 ≠ p4 ∧ p3 ≠ p4) := by
    refine ⟨?_, ?_, ?_, ?_, ?_, ?_⟩ <;> omega
  clear bF c0 c1 d0 d1 d2 d3 d4 d5 e0 e1 f0 f1
  go_wp2
  go_ret
  exact ⟨w6.heap.size, p1, p2, p3, p4, rfl, heap_alloc_new w6 _, HSF.out, HD.out, HBF.out⟩
end Go.Proofs.Ytkdlfgfjahnhmaa
