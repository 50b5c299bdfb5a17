import Derived.Test.YtponmokiogdejaaNetNil
namespace Go.Proofs.Ytponmokiogdejaa
open Go.RowKit
set_option linter.unusedSimpArgs false
set_option linter.unusedVariables false
set_option maxHeartbeats 2000000 in
theorem dropOut_any (i : Int) (w : World) {g0 n c : Nat} {A : Option Addr} (q0 : w.cell? ⟨g0, 0, none⟩ = some (.slice A n c)) (hi : i < 0 ∨ (n : Int) ≤ i) :
    Calls Try.prog 15 #[.pointer (some ⟨g0, 0, none⟩), .int .i64 i] w (Bad w 17) := by
  have hg := World.block_lt_of_cell? w _ q0
  have HC := Lib.hid fun W c1 c2 (hW : Below w.heap.size w W) => withDrop_out c1 c2 ((hW.cell (p := ⟨g0, 0, none⟩) hg).trans q0) hi
  clear hi
  go_enter Try.func15, Try.ntmps15
  go_wp2_with fail
  ((with_reducible refine (HC.out _ _ _ (by go_grown)).mono ?_); rintro e w4 ⟨rfl, rfl⟩)
  go_wp2
  go_ret
  refine ⟨rfl, ?_⟩
  go_grown
set_option maxHeartbeats 2000000 in
theorem doubleOut_any (i : Int) (w : World) {g0 n c : Nat} {A : Option Addr} (q0 : w.cell? ⟨g0, 0, none⟩ = some (.slice A n c)) (hi : i < 0 ∨ (n : Int) ≤ i) :
    Calls Try.prog 18 #[.pointer (some ⟨g0, 0, none⟩), .int .i64 i] w (Bad w 17) := by
  have hg := World.block_lt_of_cell? w _ q0
  have HC := Lib.hid fun W c1 (hW : Below w.heap.size w W) => withDouble_out c1 ((hW.cell (p := ⟨g0, 0, none⟩) hg).trans q0) hi
  clear hi
  go_enter Try.func18, Try.ntmps18
  go_wp2_with fail
  ((with_reducible refine (HC.out _ _ (by go_grown)).mono ?_); rintro e w4 ⟨rfl, rfl⟩)
  go_wp2
  go_ret
  refine ⟨rfl, ?_⟩
  go_grown
end Go.Proofs.Ytponmokiogdejaa
