/- The law, reckoned by the kernel. -/
import Derived.Test.YtbanklocochiaaaEvTold
namespace Go.Proofs.Ytbanklocochiaaa
open Go.RowKit

theorem scanNone_reck : Ev.reck Try.prog ev_told 1000000 5 [] = true := by kernel_rfl
theorem scanNone_walk (W : World) : Calls Try.prog 5 #[] W fun e W' => e = .returned (.bool true) ∧ Below W.heap.size W W' := ev_true (args := []) rfl scanNone_reck W

open Go.ChangeShapes Go.WideShapes in
open Go.ChangeMaps (open_string) in
set_option maxRecDepth 1000000 in
theorem scanNone_law : LawWalk Try.prog 5 Try.f5 := by
  intro H enc W base args ds p hval hA hsz
  rw [Try.params5] at hA hval hsz

  obtain ⟨hargs, rfl, rfl⟩ := trodAll_nil hA
  obtain rfl : args = #[] := by cases args; simp_all

  exact scanNone_walk  W 

set_option maxRecDepth 100000 in
theorem scanNone_lifted (os : Os) (started : os.Started) (H : Type) (enc : TypeId × Value → H) :
    ReturnsInHanded {} Try.checked os 5 .any (Rows.scanNoneSpec.pre6 enc Try.prog Try.f5 Rows.scanNoneRow.domain false) (Rows.scanNoneSpec.post enc Try.prog Try.f5 false true false false) :=
  law_lifted (s := Rows.scanNoneSpec) started (by kernel_rfl) Try.func5 Try.underlying4 rfl rfl
    (by rw [Try.params5]; simp)
    (fun H ds hl => by match ds, hl with | [], _ => rfl)
    (ChangeSpec.witness6 (enc := enc) (C := Try.checked) false ⟨#[], #[], []⟩ 8 (by kernel_rfl) (by kernel_rfl) (by kernel_rfl) (by kernel_rfl)) scanNone_law

theorem scanNone_over : Rows.scanNoneRow.holds Try.pinned (OpenSpec.ofChange Rows.scanNoneSpec) :=
  OpenClaim.holds_of_wide 5 Try.f5 rfl rfl rfl rfl rfl rfl rfl ⟨rfl, rfl, rfl, rfl, rfl⟩ rfl rfl rfl rfl rfl (by kernel_rfl) Try.func5 (by kernel_rfl)
    (of_decide_eq_true (by kernel_rfl)) (by unfold Func.isWrapper; first | (rw [if_pos (by decide +kernel)]; kernel_rfl) | (rw [if_neg (by decide +kernel)]; exact ⟨rfl, rfl⟩))
    (fun os started H enc _ => scanNone_lifted os started H enc)

theorem scanNone_proved : Rows.ScanNoneSaid := scanNone_over

end Go.Proofs.Ytbanklocochiaaa
