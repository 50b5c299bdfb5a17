import Derived.Test.YtponmokiogdejaaNetKnown
namespace Go.Proofs.Ytponmokiogdejaa
open Go.RowKit
set_option linter.unusedSimpArgs false
set_option linter.unusedVariables false

/-- An error, and nothing done. -/
def Bad (w : World) (q : Nat) (e : Ending) (w' : World) : Prop := e = .returned (.int .i64 (q : Int)) ∧ Below w.heap.size w w'
set_option maxHeartbeats 1000000 in
theorem withDrop_nil (w : World) (i : Int) (c1 c2 : Value) : Calls Try.prog 34 #[.pointer none, .int .i64 i, .func (.func 35) #[] #[c1, c2]] w fun e w' => e = .returned (.int .i64 1) ∧ w = w' := by
  go_enter Try.func34, Try.ntmps34
  go_wp2
  go_ret
  exact ⟨rfl, rfl⟩
set_option maxHeartbeats 1000000 in
theorem withDouble_nil (w : World) (i : Int) (c1 : Value) : Calls Try.prog 34 #[.pointer none, .int .i64 i, .func (.func 41) #[] #[c1]] w fun e w' => e = .returned (.int .i64 1) ∧ w = w' := by
  go_enter Try.func34, Try.ntmps34
  go_wp2
  go_ret
  exact ⟨rfl, rfl⟩
set_option maxHeartbeats 1000000 in
theorem withSpoil_nil (w : World) (i : Int) (c1 c2 : Value) : Calls Try.prog 34 #[.pointer none, .int .i64 i, .func (.func 42) #[] #[c1, c2]] w fun e w' => e = .returned (.int .i64 1) ∧ w = w' := by
  go_enter Try.func34, Try.ntmps34
  go_wp2
  go_ret
  exact ⟨rfl, rfl⟩
set_option maxHeartbeats 1000000 in
theorem withAt_nil (w : World) (i : Int) (c1 : Value) : Calls Try.prog 34 #[.pointer none, .int .i64 i, .func (.func 44) #[] #[c1]] w fun e w' => e = .returned (.int .i64 1) ∧ w = w' := by
  go_enter Try.func34, Try.ntmps34
  go_wp2
  go_ret
  exact ⟨rfl, rfl⟩

set_option maxHeartbeats 2000000 in
theorem dropNil_any (i : Int) (w : World) : Calls Try.prog 15 #[.pointer none, .int .i64 i] w (Bad w 1) := by
  have HC := Lib.hid withDrop_nil
  go_enter Try.func15, Try.ntmps15
  go_wp2_with fail
  ((with_reducible refine (HC.out _ _ _ _).mono ?_); rintro e w4 ⟨rfl, rfl⟩)
  go_wp2
  go_ret
  refine ⟨rfl, ?_⟩
  go_grown
set_option maxHeartbeats 2000000 in
theorem doubleNil_any (i : Int) (w : World) : Calls Try.prog 18 #[.pointer none, .int .i64 i] w (Bad w 1) := by
  have HC := Lib.hid withDouble_nil
  go_enter Try.func18, Try.ntmps18
  go_wp2_with fail
  ((with_reducible refine (HC.out _ _ _).mono ?_); rintro e w4 ⟨rfl, rfl⟩)
  go_wp2
  go_ret
  refine ⟨rfl, ?_⟩
  go_grown
set_option maxHeartbeats 2000000 in
theorem spoilNil_any (i a m : Int) (w : World) : Calls Try.prog 19 #[.pointer none, .int .i64 i, .int .i64 a, .int .u8 m] w (Bad w 1) := by
  have HC := Lib.hid withSpoil_nil
  go_enter Try.func19, Try.ntmps19
  go_wp2_with fail
  ((with_reducible refine (HC.out _ _ _ _).mono ?_); rintro e w4 ⟨rfl, rfl⟩)
  go_wp2
  go_ret
  refine ⟨rfl, ?_⟩
  go_grown
set_option maxHeartbeats 2000000 in
theorem spoilOut_any (i a m : Int) (w : World) {g0 n c : Nat} {A : Option Addr} (q0 : w.cell? ⟨g0, 0, none⟩ = some (.slice A n c)) (hi : i < 0 ∨ (n : Int) ≤ i) :
    Calls Try.prog 19 #[.pointer (some ⟨g0, 0, none⟩), .int .i64 i, .int .i64 a, .int .u8 m] w (Bad w 17) := by
  have hg := World.block_lt_of_cell? w _ q0
  have HC := Lib.hid fun W c1 c2 (hW : Below w.heap.size w W) => withSpoil_out c1 c2 ((hW.cell (p := ⟨g0, 0, none⟩) hg).trans q0) hi
  clear hi
  go_enter Try.func19, Try.ntmps19
  go_wp2_with fail
  ((with_reducible refine (HC.out _ _ _ (by go_grown)).mono ?_); rintro e w4 ⟨rfl, rfl⟩)
  go_wp2
  go_ret
  refine ⟨rfl, ?_⟩
  go_grown
/-- No letter, and an error. -/
def BadLet (w : World) (q : Nat) (e : Ending) (w' : World) : Prop := e = .returned (.tuple #[.agg #[.int .u64 0, .slice none 0 0, .bool false], .int .i64 (q : Int)]) ∧ Below w.heap.size w w'
set_option maxRecDepth 100000 in
set_option maxHeartbeats 2000000 in
theorem atNil_any (i : Int) (w : World) : Calls Try.prog 20 #[.pointer none, .int .i64 i] w (BadLet w 1) := by
  have HC := Lib.hid withAt_nil
  go_enter Try.func20, Try.ntmps20
  go_wp2_with fail
  ((with_reducible refine (HC.out _ _ _).mono ?_); rintro e w4 ⟨rfl, rfl⟩)
  go_wp2
  refine bodyPost_ret (v := .tuple #[.agg #[.int .u64 0, .slice none 0 0, .bool false], .int .i64 1]) (by simp [results, Try.results20, go_sem]) rfl ⟨rfl, ?_⟩
  go_grown

set_option maxRecDepth 100000 in
set_option maxHeartbeats 2000000 in
theorem atOut_any (i : Int) (w : World) {g0 n c : Nat} {A : Option Addr} (q0 : w.cell? ⟨g0, 0, none⟩ = some (.slice A n c)) (hi : i < 0 ∨ (n : Int) ≤ i) : Calls Try.prog 20 #[.pointer (some ⟨g0, 0, none⟩), .int .i64 i] w (BadLet w 17) := by
  have hg := World.block_lt_of_cell? w _ q0
  have HC := Lib.hid fun W c1 (hW : Below w.heap.size w W) => withAt_out c1 ((hW.cell (p := ⟨g0, 0, none⟩) hg).trans q0) hi
  clear hi
  go_enter Try.func20, Try.ntmps20
  go_wp2_with fail
  ((with_reducible refine (HC.out _ _ (by go_grown)).mono ?_); rintro e w4 ⟨rfl, rfl⟩)
  go_wp2
  refine bodyPost_ret (v := .tuple #[.agg #[.int .u64 0, .slice none 0 0, .bool false], .int .i64 17]) (by simp [results, Try.results20, go_sem]) rfl ⟨rfl, ?_⟩
  go_grown

set_option maxRecDepth 100000 in
set_option maxHeartbeats 2000000 in
theorem take_bad (p : Option Addr) (i : Int) (q : Nat) (hq : q = 1 ∨ q = 17) (w : World) (hC : ∀ W, Below w.heap.size w W → Calls Try.prog 20 #[.pointer p, .int .i64 i] W (BadLet W q)) : Calls Try.prog 25 #[.pointer p, .int .i64 i] w (BadLet w q) := by
  have o1 : (w.alloc (.cells #[.int .u64 0, .slice none 0 0, .bool false] 47)).heap[w.heap.size]? = some (.cells #[.int .u64 0, .slice none 0 0, .bool false] 47 (0, 0)) := heap_alloc_new w _
  obtain ⟨w1, hw1⟩ : ∃ w1, w.alloc (.cells #[.int .u64 0, .slice none 0 0, .bool false] 47) = w1 := ⟨_, rfl⟩
  rw [hw1] at o1
  have b1 : Below w.heap.size w w1 := by rw [← hw1]; exact (Below.refl _ w).alloc (Nat.le_refl _) _
  have z1 : w1.heap.size = w.heap.size + 1 := by rw [← hw1]; simp
  have HC := Lib.hid (hC w1 b1)
  clear hC
  rcases hq with rfl | rfl
  all_goals
    go_enter Try.func25, Try.ntmps25
    go_wp2_with fail
    ((with_reducible refine HC.out.mono ?_); rintro e w4 ⟨rfl, b4⟩)
    have p1 : w4.heap[w.heap.size]? = some (.cells #[.int .u64 0, .slice none 0 0, .bool false] 47 (0, 0)) := (b4.block _ (by omega)).trans o1
    have s0 : w4.cell? ⟨w.heap.size, 0, none⟩ = some (.int .u64 0) := by rw [cell_of_row _ _ 0 _ _ (0, 0) p1]; rfl
    have s1 : w4.cell? ⟨w.heap.size, 1, none⟩ = some (.slice none 0 0) := by rw [cell_of_row _ _ 1 _ _ (0, 0) p1]; rfl
    have s2 : w4.cell? ⟨w.heap.size, 2, none⟩ = some (.bool false) := by rw [cell_of_row _ _ 2 _ _ (0, 0) p1]; rfl
    have P3 := heap_setCell_same _ _ 2 _ _ (.bool false) (heap_setCell_same _ _ 1 _ _ (.slice none 0 0) (heap_setCell_same _ _ 0 _ _ (.int .u64 0) p1))
    have f0 := fun o => cell_alloc_d o (cell_of_row _ _ 0 _ _ (0, 0) P3)
    have f1 := fun o => cell_alloc_d o (cell_of_row _ _ 1 _ _ (0, 0) P3)
    have f2 := fun o => cell_alloc_d o (cell_of_row _ _ 2 _ _ (0, 0) P3)
    have ff := fun o => frozen_of_row _ _ o _ _ P3
    have sf := fun o => frozen_of_row w4 w.heap.size o _ _ p1
    have sf0 := sf 0
    have sf1 := sf 1
    have sf2 := sf 2
    have hne : w.heap.size < w4.heap.size := by have := b4.size; omega
    have hne2 : w.heap.size ≠ w4.heap.size := by omega
    have b6 : Below w.heap.size w w4 := bthen b1 b4
    clear o1 p1 sf b4 hw1 HC
    go_wp2
    refine bodyPost_ret (v := .tuple #[.agg #[.int .u64 0, .slice none 0 0, .bool false], .int .i64 _]) (by simp [results, Try.results25, go_sem, f0, f1, f2, s0, s1, s2]) rfl ⟨rfl, ?_⟩
    exact (((b6.setCell (Nat.le_refl _) _).setCell (Nat.le_refl _) _).setCell (Nat.le_refl _) _).alloc (by simp [World.setCell]; omega) _

set_option maxHeartbeats 1000000 in
theorem sendNil_any (tw : Nat) (w : World) : Calls Try.prog 14 #[.pointer none, .int .u64 (tw : Int), .slice none 0 0] w (Bad w 1) := by
  go_enter Try.func14, Try.ntmps14
  go_wp2
  go_ret
  refine ⟨rfl, ?_⟩
  go_grown
set_option maxHeartbeats 1000000 in
theorem lenNil_any (w : World) : Calls Try.prog 26 #[.pointer none] w (Bad w 0) := by
  go_enter Try.func26, Try.ntmps26
  go_wp2
  go_ret
  refine ⟨rfl, ?_⟩
  go_grown
set_option maxHeartbeats 1000000 in
theorem lenAt_any (w : World) {g0 n c : Nat} {A : Option Addr} (q0 : w.cell? ⟨g0, 0, none⟩ = some (.slice A n c)) : Calls Try.prog 26 #[.pointer (some ⟨g0, 0, none⟩)] w (Bad w n) := by
  go_enter Try.func26, Try.ntmps26
  go_wp2
  go_ret
  refine ⟨rfl, ?_⟩
  go_grown
set_option maxHeartbeats 1000000 in
theorem allNone_any (p : Option Addr) (w : World) (hC : ∀ W, Below w.heap.size w W → Calls Try.prog 26 #[.pointer p] W (Bad W 0)) : Calls Try.prog 13 #[.pointer p] w fun e w' => e = .returned (.slice none 0 0) ∧ Below w.heap.size w w' := by
  have HC := Lib.hid hC
  clear hC
  go_enter Try.func13, Try.ntmps13
  go_wp2_with fail
  ((with_reducible refine (HC.out _ (by go_grown)).mono ?_); rintro e w4 ⟨rfl, b4⟩)
  go_wp2
  go_rounds 1
  go_ret
  refine ⟨rfl, ?_⟩
  go_grown
set_option maxHeartbeats 1000000 in
theorem countNone_any (p : Option Addr) (tw : Nat) (w : World) (hC : ∀ W, Below w.heap.size w W → Calls Try.prog 26 #[.pointer p] W (Bad W 0)) : Calls Try.prog 27 #[.pointer p, .int .u64 (tw : Int)] w (Bad w 0) := by
  have HC := Lib.hid hC
  clear hC
  go_enter Try.func27, Try.ntmps27
  go_wp2_with fail
  ((with_reducible refine (HC.out _ (by go_grown)).mono ?_); rintro e w4 ⟨rfl, b4⟩)
  go_wp2
  go_rounds 1
  go_ret
  refine ⟨rfl, ?_⟩
  go_grown
set_option maxHeartbeats 1000000 in
theorem copyNil_any (w : World) : Calls Try.prog 28 #[.pointer none] w fun e w' => e = .returned (.pointer none) ∧ Below w.heap.size w w' := by
  go_enter Try.func28, Try.ntmps28
  go_wp2
  go_ret
  refine ⟨rfl, ?_⟩
  go_grown
end Go.Proofs.Ytponmokiogdejaa
