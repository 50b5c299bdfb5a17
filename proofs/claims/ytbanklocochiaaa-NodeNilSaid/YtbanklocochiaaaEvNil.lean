/- Laws without arguments, reckoned. -/
import Derived.Test.YtbanklocochiaaaLaw
import Derived.Test.YtbanklocochiaaaEv21
namespace Go.Proofs.Ytbanklocochiaaa
open Go.RowKit

theorem ev_mixed : Try.prog.follows .mixedOrders = true := by kernel_rfl
theorem nodeNil_reck : Ev.reck Try.prog 1000000 3 [] = true := by kernel_rfl
theorem nodeNil_walk (W : World) : Calls Try.prog 3 #[] W fun e W' => e = .returned (.bool true) ∧ Below W.heap.size W W' :=
  Ev.calls_true ev_mixed (args := []) rfl nodeNil_reck W

open Go.ChangeShapes Go.WideShapes in
open Go.ChangeMaps (open_string) in
set_option maxRecDepth 1000000 in
theorem nodeNil_law : LawWalk Try.prog 3 Try.f3 := by
  intro H enc W base args ds p hval hA hsz
  rw [Try.params3] at hA hval hsz

  obtain ⟨hargs, rfl, rfl⟩ := trodAll_nil hA
  obtain rfl : args = #[] := by cases args; simp_all

  exact nodeNil_walk  W 

set_option maxRecDepth 100000 in
theorem nodeNil_lifted (os : Os) (started : os.Started) (H : Type) (enc : TypeId × Value → H) :
    ReturnsInHanded {} Try.checked os 3 .any (Rows.nodeNilSpec.pre6 enc Try.prog Try.f3 Rows.nodeNilRow.domain false) (Rows.nodeNilSpec.post enc Try.prog Try.f3 false true false false) :=
  law_lifted (s := Rows.nodeNilSpec) started (by kernel_rfl) Try.func3 Try.underlying4 rfl rfl
    (by rw [Try.params3]; simp)
    (fun H ds hl => by match ds, hl with | [], _ => rfl)
    (ChangeSpec.witness6 (enc := enc) (C := Try.checked) false ⟨#[], #[], []⟩ 8 (by kernel_rfl) (by kernel_rfl) (by kernel_rfl) (by kernel_rfl)) nodeNil_law

theorem nodeNil_over : Rows.nodeNilRow.holds Try.pinned (OpenSpec.ofChange Rows.nodeNilSpec) :=
  OpenClaim.holds_of_wide 3 Try.f3 rfl rfl rfl rfl rfl rfl rfl ⟨rfl, rfl, rfl, rfl, rfl⟩ rfl rfl rfl rfl rfl (by kernel_rfl) Try.func3 (by kernel_rfl)
    (of_decide_eq_true (by kernel_rfl)) (by unfold Func.isWrapper; first | (rw [if_pos (by decide +kernel)]; kernel_rfl) | (rw [if_neg (by decide +kernel)]; exact ⟨rfl, rfl⟩))
    (fun os started H enc _ => nodeNil_lifted os started H enc)

theorem nodeNil_proved : Rows.NodeNilSaid := nodeNil_over

end Go.Proofs.Ytbanklocochiaaa
