import Derived.Test.YtgeefnmgejnemaaDoorUtfRunes
namespace Go.Proofs.YtgeefnmgejnemaaDoor
open Go.RowKit Go.Shelf Utf
set_option linter.unusedSimpArgs false
set_option linter.unusedVariables false
namespace Utf
def codeL : List Nat := [34, 92, 47, 8, 12, 10, 13, 9]
theorem codeL_lt (k : Nat) : codeL.getD k 0 ≤ 92 := by
  match k with
  | 0 => decide
  | 1 => decide
  | 2 => decide
  | 3 => decide
  | 4 => decide
  | 5 => decide
  | 6 => decide
  | 7 => decide
  | k + 8 => show 0 ≤ 92; omega
end Utf
set_option maxRecDepth 100000 in
set_option maxHeartbeats 4000000 in
theorem refCode_any (k : Nat) (w : World) (hk : k < 8) :
    Calls Tryd.prog 31 #[.int .i64 (k : Int)] w fun e w' => e = .returned (.int .i64 (codeL.getD k 0 : Nat)) ∧ Below w.heap.size w w' := by
  have h : k = 0 ∨ k = 1 ∨ k = 2 ∨ k = 3 ∨ k = 4 ∨ k = 5 ∨ k = 6 ∨ k = 7 := by omega
  clear hk
  rcases h with rfl | rfl | rfl | rfl | rfl | rfl | rfl | rfl
  all_goals
    go_enter Tryd.func31, Tryd.ntmps31
    go_wp2
    go_ret
    exact ⟨rfl, (Below.refl _ _).alloc (Nat.le_refl _) _⟩
end Go.Proofs.YtgeefnmgejnemaaDoor
