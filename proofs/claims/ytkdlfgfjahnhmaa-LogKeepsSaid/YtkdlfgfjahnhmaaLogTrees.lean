/- Entries of one make: what copies them. -/
import Derived.Test.YtkdlfgfjahnhmaaLogAt
namespace Go.Proofs.Ytkdlfgfjahnhmaa
open Go.RowKit
set_option linter.unusedSimpArgs false
set_option linter.unusedVariables false
def oneV : Value := .agg #[.int .i64 3, .bool false, .int .i64 1, .string ⟨#[]⟩, .slice none 0 0, .slice none 0 0]
/-- An entry's cells. -/
def entC (k : ByteArray) : List Value := [.string k, .int .i64 3, .bool false, .int .i64 1, .string ⟨#[]⟩, .slice none 0 0, .slice none 0 0]
def entV (k : ByteArray) : Value := .agg #[.string k, .int .i64 3, .bool false, .int .i64 1, .string ⟨#[]⟩, .slice none 0 0, .slice none 0 0]
theorem info_ent : (Try.prog.info? 79).map (fun i => (i.zero, i.size, i.bytes)) = some (some (.agg #[.string ⟨#[]⟩, .int .i64 0, .bool false, .int .i64 0, .string ⟨#[]⟩, .slice none 0 0, .slice none 0 0]), 7, 104) := by kernel_rfl
set_option maxRecDepth 100000 in
set_option maxHeartbeats 4000000 in
theorem copy_one (w : World) : Calls Try.prog 66 #[oneV] w fun e w' => e = .returned oneV ∧ Below w.heap.size w w' := by
  unfold oneV
  go_enter Try.func66, Try.ntmps66
  go_wp2
  refine bodyPost_ret (v := oneV) (by simp [results, Try.results66, go_sem, oneV]) rfl ⟨rfl, ?_⟩
  go_grown
theorem row7 {w : World} {b : Nat} {x0 x1 x2 x3 x4 x5 x6 : Value} {t : TypeId} (h : w.heap[b]? = some (.cells #[x0, x1, x2, x3, x4, x5, x6] t (0, 0))) :
    (w.cell? ⟨b, 0, none⟩ = some x0 ∧ w.cell? ⟨b, 1, none⟩ = some x1 ∧ w.cell? ⟨b, 2, none⟩ = some x2 ∧ w.cell? ⟨b, 3, none⟩ = some x3 ∧ w.cell? ⟨b, 4, none⟩ = some x4 ∧ w.cell? ⟨b, 5, none⟩ = some x5 ∧ w.cell? ⟨b, 6, none⟩ = some x6) ∧
      (w.frozen? ⟨b, 0, none⟩ = false ∧ w.frozen? ⟨b, 1, none⟩ = false ∧ w.frozen? ⟨b, 2, none⟩ = false ∧ w.frozen? ⟨b, 3, none⟩ = false ∧ w.frozen? ⟨b, 4, none⟩ = false ∧ w.frozen? ⟨b, 5, none⟩ = false ∧ w.frozen? ⟨b, 6, none⟩ = false) := by
  refine ⟨⟨?_, ?_, ?_, ?_, ?_, ?_, ?_⟩, frozen_of_row _ _ _ _ _ h, frozen_of_row _ _ _ _ _ h, frozen_of_row _ _ _ _ _ h, frozen_of_row _ _ _ _ _ h, frozen_of_row _ _ _ _ _ h, frozen_of_row _ _ _ _ _ h, frozen_of_row _ _ _ _ _ h⟩
  all_goals (rw [cell_of_row _ _ _ _ _ (0, 0) h]; rfl)
def set7 (w : World) (b : Nat) (y0 y1 y2 y3 y4 y5 y6 : Value) : World := (((((((w.setCell ⟨b, 0, none⟩ y0).setCell ⟨b, 1, none⟩ y1).setCell ⟨b, 2, none⟩ y2).setCell ⟨b, 3, none⟩ y3).setCell ⟨b, 4, none⟩ y4).setCell ⟨b, 5, none⟩ y5).setCell ⟨b, 6, none⟩ y6)
theorem set7_row {w : World} {b : Nat} {x0 x1 x2 x3 x4 x5 x6 : Value} {t : TypeId} (h : w.heap[b]? = some (.cells #[x0, x1, x2, x3, x4, x5, x6] t (0, 0))) (y0 y1 y2 y3 y4 y5 y6 : Value) :
    (set7 w b y0 y1 y2 y3 y4 y5 y6).heap[b]? = some (.cells #[y0, y1, y2, y3, y4, y5, y6] t (0, 0)) := by
  have h0 := heap_setCell_same _ b 0 _ _ y0 h
  have h1 := heap_setCell_same _ b 1 _ _ y1 h0
  have h2 := heap_setCell_same _ b 2 _ _ y2 h1
  have h3 := heap_setCell_same _ b 3 _ _ y3 h2
  have h4 := heap_setCell_same _ b 4 _ _ y4 h3
  have h5 := heap_setCell_same _ b 5 _ _ y5 h4
  have h6 := heap_setCell_same _ b 6 _ _ y6 h5
  unfold set7
  rw [h6]
  rfl
theorem set7_below {B b : Nat} {w : World} (hB : B ≤ b) (y0 y1 y2 y3 y4 y5 y6 : Value) : Below B w (set7 w b y0 y1 y2 y3 y4 y5 y6) :=
  (((((((Below.refl B w).setCell (p := ⟨b, 0, none⟩) hB _).setCell (p := ⟨b, 1, none⟩) hB _).setCell (p := ⟨b, 2, none⟩) hB _).setCell (p := ⟨b, 3, none⟩) hB _).setCell (p := ⟨b, 4, none⟩) hB _).setCell (p := ⟨b, 5, none⟩) hB _).setCell (p := ⟨b, 6, none⟩) hB _
set_option maxRecDepth 100000 in
set_option maxHeartbeats 4000000 in
theorem copied_one (k : ByteArray) (w : World) : Calls Try.prog 61 #[entV k] w fun e w' => e = .returned (entV k) ∧ Below w.heap.size w w' := by
  have HC := Lib.hid copy_one
  unfold oneV at HC
  unfold entV
  have g0 := heap_alloc2_old w (.cells #[.string k, .int .i64 3, .bool false, .int .i64 1, .string ⟨#[]⟩, .slice none 0 0, .slice none 0 0] 79) (.cells #[.string ⟨#[]⟩, .int .i64 0, .bool false, .int .i64 0, .string ⟨#[]⟩, .slice none 0 0, .slice none 0 0] 79)
  have g1 := heap_alloc2_new w (.cells #[.string k, .int .i64 3, .bool false, .int .i64 1, .string ⟨#[]⟩, .slice none 0 0, .slice none 0 0] 79) (.cells #[.string ⟨#[]⟩, .int .i64 0, .bool false, .int .i64 0, .string ⟨#[]⟩, .slice none 0 0, .slice none 0 0] 79)
  obtain ⟨W, hW⟩ : ∃ W, (w.alloc (.cells #[.string k, .int .i64 3, .bool false, .int .i64 1, .string ⟨#[]⟩, .slice none 0 0, .slice none 0 0] 79)).alloc (.cells #[.string ⟨#[]⟩, .int .i64 0, .bool false, .int .i64 0, .string ⟨#[]⟩, .slice none 0 0, .slice none 0 0] 79) = W := ⟨_, rfl⟩
  rw [hW] at g0 g1
  have hB : Below w.heap.size w W := by rw [← hW]; exact ((Below.refl _ w).alloc (Nat.le_refl _) _).alloc (by rw [zal]; omega) _
  have hz : W.heap.size = w.heap.size + 2 := by rw [← hW]; simp
  have HZ := Lib.hid hz
  obtain ⟨⟨a0, a1, a2, a3, a4, a5, a6⟩, _⟩ := row7 g0
  have HB := Lib.hid hB
  have G1 := Lib.hid g1
  have HW := Lib.hid hW
  clear hW hB g0 g1 hz
  go_enter Try.func61, Try.ntmps61
  go_wp2
  rw [HW.out]
  go_region_with (first | (go_at_call 66; (with_reducible refine (HC.out _).mono ?_); rintro e w4 ⟨rfl, b4⟩; have b5 : Below W.heap.size W w4 := (Below.refl _ W).drew.trans b4; have a0 := (b5.cell (p := ⟨w.heap.size, 0, none⟩) (by show w.heap.size < W.heap.size; have := HZ.out; omega)).trans a0; have R4 := Lib.hid ((b5.block (w.heap.size + 1) (by have := HZ.out; omega)).trans G1.out); obtain ⟨⟨d0, d1, d2, d3, d4, d5, d6⟩, f0, f1, f2, f3, f4, f5, f6⟩ := row7 ((b5.block (w.heap.size + 1) (by have := HZ.out; omega)).trans G1.out)))
  all_goals
    have RF := set7_row R4.out (.string k) (.int .i64 3) (.bool false) (.int .i64 1) (.string ⟨#[]⟩) (.slice none 0 0) (.slice none 0 0)
    have BF := (HB.out.trans (b5.mono HB.out.size)).trans (set7_below (w := w4) (show w.heap.size ≤ w.heap.size + 1 by omega) (.string k) (.int .i64 3) (.bool false) (.int .i64 1) (.string ⟨#[]⟩) (.slice none 0 0) (.slice none 0 0))
    unfold set7 at RF BF
    obtain ⟨⟨z0, z1, z2, z3, z4, z5, z6⟩, _⟩ := row7 RF
    have HBF := Lib.hid BF
    clear a0 a1 a2 a3 a4 a5 a6 d0 d1 d2 d3 d4 d5 d6 f0 f1 f2 f3 f4 f5 f6 RF BF b4 b5
    go_wp2
    refine bodyPost_ret (v := entV k) (by simp [results, Try.results61, go_sem, entV, z0, z1, z2, z3, z4, z5, z6]) rfl ⟨rfl, HBF.out⟩
end Go.Proofs.Ytkdlfgfjahnhmaa
