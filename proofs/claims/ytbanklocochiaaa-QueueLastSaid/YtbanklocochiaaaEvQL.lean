/- known() is true, and may be called so. -/
import Derived.Test.YtbanklocochiaaaEvTold
import Derived.Test.YtbanklocochiaaaEvVars
namespace Go.Proofs.Ytbanklocochiaaa
open Go.RowKit

theorem ql_known_reck : Ev.reck Try.prog ev_told 1000000 77 [] = true := by kernel_rfl
theorem ql_known : Ev.SureOK Try.prog 77 := fun w => ev_true (args := []) rfl ql_known_reck w
def qlRun (l n : Nat) : Prop := Ev.reck Try.prog { ev_told with sure := [77] } 1000000 11 [.int .u64 (l : Int), .int .i64 (n : Int)] = true
theorem ql_sure : ∀ f ∈ [77], Ev.SureOK Try.prog f := by
  intro f hf
  simp only [List.mem_cons, List.not_mem_nil, or_false] at hf
  subst hf
  exact ql_known
theorem ql_in {l n : Nat} (h : qlRun l n) (w : World) :
    Calls Try.prog 11 #[.int .u64 (l : Int), .int .i64 (n : Int)] w fun e w' => e = .returned (.bool true) ∧ Below w.heap.size w w' :=
  ev_true_by Ev.noVars [77] ql_sure (args := [.int .u64 (l : Int), .int .i64 (n : Int)]) rfl h w
end Go.Proofs.Ytbanklocochiaaa
