/- The law, reckoned by the kernel; the chapter's rows first. -/
import Derived.Test.YtgidmgkebkodoaaGreatEvToldL
namespace Go.Proofs.YtgidmgkebkodoaaGreat
open Go.RowKit

theorem subsKnown_reck : Ev.reckL Tryz.prog ev_told 1000000 14 [] = true := by kernel_rfl
theorem sn_sure : ∀ f ∈ [14], Ev.SureOK Tryz.prog f := by
  intro f hf
  rw [List.mem_singleton.1 hf]
  exact evL_sure subsKnown_reck
theorem subsNil_reck : Ev.reckL Tryz.prog { ev_told with sure := [14] } 1000000 3 [] = true := by kernel_rfl
theorem subsNil_walk (W : World) : Calls Tryz.prog 3 #[] W fun e W' => e = .returned (.bool true) ∧ Below W.heap.size W W' :=
  evL_true_by Ev.noVars rfl _ sn_sure (args := []) rfl subsNil_reck W

open Go.ChangeShapes Go.WideShapes in
open Go.ChangeMaps (open_string) in
set_option maxRecDepth 1000000 in
theorem subsNil_law : LawWalk Tryz.prog 3 Tryz.f3 := by
  intro H enc W base args ds p hval hA hsz
  rw [Tryz.params3] at hA hval hsz

  obtain ⟨hargs, rfl, rfl⟩ := trodAll_nil hA
  obtain rfl : args = #[] := by cases args; simp_all

  exact subsNil_walk  W 

set_option maxRecDepth 100000 in
theorem subsNil_lifted (os : Os) (started : os.Started) (H : Type) (enc : TypeId × Value → H) :
    ReturnsInHanded {} Tryz.checked os 3 .any (Rows.subsNilSpec.pre6 enc Tryz.prog Tryz.f3 Rows.subsNilRow.domain false) (Rows.subsNilSpec.post enc Tryz.prog Tryz.f3 false true false false) :=
  law_lifted (s := Rows.subsNilSpec) started (by kernel_rfl) Tryz.func3 Tryz.underlying4 rfl rfl
    (by rw [Tryz.params3]; simp)
    (fun H ds hl => by match ds, hl with | [], _ => rfl)
    (ChangeSpec.witness6 (enc := enc) (C := Tryz.checked) false ⟨#[], #[], []⟩ 8 (by kernel_rfl) (by kernel_rfl) (by kernel_rfl) (by kernel_rfl)) subsNil_law

theorem subsNil_over : Rows.subsNilRow.holds Tryz.pinned (OpenSpec.ofChange Rows.subsNilSpec) :=
  OpenClaim.holds_of_wide 3 Tryz.f3 rfl rfl rfl rfl rfl rfl rfl ⟨rfl, rfl, rfl, rfl, rfl⟩ rfl rfl rfl rfl rfl (by kernel_rfl) Tryz.func3 (by kernel_rfl)
    (of_decide_eq_true (by kernel_rfl)) (by unfold Func.isWrapper; first | (rw [if_pos (by decide +kernel)]; kernel_rfl) | (rw [if_neg (by decide +kernel)]; exact ⟨rfl, rfl⟩))
    (fun os started H enc _ => subsNil_lifted os started H enc)

theorem subsNil_proved : Rows.SubsNilSaid := subsNil_over

end Go.Proofs.YtgidmgkebkodoaaGreat
