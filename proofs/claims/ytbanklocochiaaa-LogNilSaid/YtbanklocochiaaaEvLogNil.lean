/- The law, reckoned by the kernel. -/
import Derived.Test.YtbanklocochiaaaEvTold
namespace Go.Proofs.Ytbanklocochiaaa
open Go.RowKit

theorem logNil_reck : Ev.reck Try.prog ev_told 1000000 6 [] = true := by kernel_rfl
theorem logNil_walk (W : World) : Calls Try.prog 6 #[] W fun e W' => e = .returned (.bool true) ∧ Below W.heap.size W W' := ev_true (args := []) rfl logNil_reck W

open Go.ChangeShapes Go.WideShapes in
open Go.ChangeMaps (open_string) in
set_option maxRecDepth 1000000 in
theorem logNil_law : LawWalk Try.prog 6 Try.f6 := by
  intro H enc W base args ds p hval hA hsz
  rw [Try.params6] at hA hval hsz

  obtain ⟨hargs, rfl, rfl⟩ := trodAll_nil hA
  obtain rfl : args = #[] := by cases args; simp_all

  exact logNil_walk  W 

set_option maxRecDepth 100000 in
theorem logNil_lifted (os : Os) (started : os.Started) (H : Type) (enc : TypeId × Value → H) :
    ReturnsInHanded {} Try.checked os 6 .any (Rows.logNilSpec.pre6 enc Try.prog Try.f6 Rows.logNilRow.domain false) (Rows.logNilSpec.post enc Try.prog Try.f6 false true false false) :=
  law_lifted (s := Rows.logNilSpec) started (by kernel_rfl) Try.func6 Try.underlying4 rfl rfl
    (by rw [Try.params6]; simp)
    (fun H ds hl => by match ds, hl with | [], _ => rfl)
    (ChangeSpec.witness6 (enc := enc) (C := Try.checked) false ⟨#[], #[], []⟩ 8 (by kernel_rfl) (by kernel_rfl) (by kernel_rfl) (by kernel_rfl)) logNil_law

theorem logNil_over : Rows.logNilRow.holds Try.pinned (OpenSpec.ofChange Rows.logNilSpec) :=
  OpenClaim.holds_of_wide 6 Try.f6 rfl rfl rfl rfl rfl rfl rfl ⟨rfl, rfl, rfl, rfl, rfl⟩ rfl rfl rfl rfl rfl (by kernel_rfl) Try.func6 (by kernel_rfl)
    (of_decide_eq_true (by kernel_rfl)) (by unfold Func.isWrapper; first | (rw [if_pos (by decide +kernel)]; kernel_rfl) | (rw [if_neg (by decide +kernel)]; exact ⟨rfl, rfl⟩))
    (fun os started H enc _ => logNil_lifted os started H enc)

theorem logNil_proved : Rows.LogNilSaid := logNil_over

end Go.Proofs.Ytbanklocochiaaa
