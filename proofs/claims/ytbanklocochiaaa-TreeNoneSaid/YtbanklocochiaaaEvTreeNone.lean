/- The law, reckoned by the kernel. -/
import Derived.Test.YtbanklocochiaaaEvTold
namespace Go.Proofs.Ytbanklocochiaaa
open Go.RowKit

theorem treeNone_reck : Ev.reck Try.prog ev_told 1000000 4 [] = true := by kernel_rfl
theorem treeNone_walk (W : World) : Calls Try.prog 4 #[] W fun e W' => e = .returned (.bool true) ∧ Below W.heap.size W W' := ev_true (args := []) rfl treeNone_reck W

open Go.ChangeShapes Go.WideShapes in
open Go.ChangeMaps (open_string) in
set_option maxRecDepth 1000000 in
theorem treeNone_law : LawWalk Try.prog 4 Try.f4 := by
  intro H enc W base args ds p hval hA hsz
  rw [Try.params4] at hA hval hsz

  obtain ⟨hargs, rfl, rfl⟩ := trodAll_nil hA
  obtain rfl : args = #[] := by cases args; simp_all

  exact treeNone_walk  W 

set_option maxRecDepth 100000 in
theorem treeNone_lifted (os : Os) (started : os.Started) (H : Type) (enc : TypeId × Value → H) :
    ReturnsInHanded {} Try.checked os 4 .any (Rows.treeNoneSpec.pre6 enc Try.prog Try.f4 Rows.treeNoneRow.domain false) (Rows.treeNoneSpec.post enc Try.prog Try.f4 false true false false) :=
  law_lifted (s := Rows.treeNoneSpec) started (by kernel_rfl) Try.func4 Try.underlying4 rfl rfl
    (by rw [Try.params4]; simp)
    (fun H ds hl => by match ds, hl with | [], _ => rfl)
    (ChangeSpec.witness6 (enc := enc) (C := Try.checked) false ⟨#[], #[], []⟩ 8 (by kernel_rfl) (by kernel_rfl) (by kernel_rfl) (by kernel_rfl)) treeNone_law

theorem treeNone_over : Rows.treeNoneRow.holds Try.pinned (OpenSpec.ofChange Rows.treeNoneSpec) :=
  OpenClaim.holds_of_wide 4 Try.f4 rfl rfl rfl rfl rfl rfl rfl ⟨rfl, rfl, rfl, rfl, rfl⟩ rfl rfl rfl rfl rfl (by kernel_rfl) Try.func4 (by kernel_rfl)
    (of_decide_eq_true (by kernel_rfl)) (by unfold Func.isWrapper; first | (rw [if_pos (by decide +kernel)]; kernel_rfl) | (rw [if_neg (by decide +kernel)]; exact ⟨rfl, rfl⟩))
    (fun os started H enc _ => treeNone_lifted os started H enc)

theorem treeNone_proved : Rows.TreeNoneSaid := treeNone_over

end Go.Proofs.Ytbanklocochiaaa
