/- The law, reckoned by the kernel. -/
import Derived.Test.YtgidmgkebkodoaaGreatDoorEvToldM
import Derived.Test.YtgidmgkebkodoaaGreatDoorLaidAny
import Derived.Test.YtgidmgkebkodoaaGreatDoorCards
import Derived.Test.YtgidmgkebkodoaaGreatDoorTie
namespace Go.Proofs.YtgidmgkebkodoaaGreatDoor
open Go.RowKit

theorem interpKnown_reck : Ev.reckM Tryz.prog { ev_told with sure := [] } [] [35] 1000000 22 [] = true := by kernel_rfl
theorem in_sure : ∀ f ∈ [22], Ev.SureOK Tryz.prog f := by
  intro f hf
  rw [List.mem_singleton.1 hf]
  exact evM_sure _ interpKnown_reck
theorem interpNil_reck : Ev.reckM Tryz.prog { ev_told with sure := [22] } [] [] 1000000 4 [] = true := by kernel_rfl
theorem interpNil_walk (W : World) (_ : Tabs W) : Calls Tryz.prog 4 #[] W fun e W' => e = .returned (.bool true) ∧ Below W.heap.size W W' := evM_true_by Ev.noVars rfl _ _ in_sure (args := []) rfl interpNil_reck W

open Go.ChangeShapes Go.WideShapes in
open Go.ChangeMaps (open_string) in
set_option maxRecDepth 1000000 in
theorem interpNil_law : LawWalkL Tryz.prog 4 Tryz.f4 Tabs := by
  intro H enc W base args ds p hval hA hsz hT
  rw [Tryz.params4] at hA hval hsz

  obtain ⟨hargs, rfl, rfl⟩ := trodAll_nil hA
  obtain rfl : args = #[] := by cases args; simp_all

  exact interpNil_walk  W hT 

set_option maxRecDepth 100000 in
theorem interpNil_witness (os : Os) {H : Type} (enc : TypeId × Value → H) :
    (OpenSpec.ofChange Rows.interpNilSpec).preRow enc Tryz.prog Tryz.f4 Rows.interpNilRow.domain false Rows.interpNilRow.laid ((laidWorld os).forCall (fun _ _ => 0) ⟨#[], #[], []⟩).memory #[] := by
  have hw : (DataW.whole enc Tryz.prog ((laidWorld os).forCall (fun _ _ => 0) ⟨#[], #[], []⟩).memory Tryz.f4.params.toList (OpenSpec.ofChange Rows.interpNilSpec).vars false (#[] : Array Value).toList 8).map (fun x => (x.1, x.2.1)) =
      some ([], []) := by kernel_rfl
  obtain ⟨⟨x1, x2, x3⟩, hx, hx1⟩ := Option.map_eq_some_iff.1 hw
  simp only [Prod.mk.injEq] at hx1
  obtain ⟨rfl, rfl⟩ := hx1
  exact OpenSpec.preRow_of_cond 8 hx (by kernel_rfl) (fun k hk => by cases hk) (by kernel_rfl) (laid_met os _)

set_option maxRecDepth 100000 in
theorem interpNil_lifted (os : Os) (started : os.Started) (H : Type) (enc : TypeId × Value → H) (F : Stop.Interp) :
    ReturnsInHanded {} Tryz.checked os 4 .any ((OpenSpec.ofChange Rows.interpNilSpec).preRow enc Tryz.prog Tryz.f4 Rows.interpNilRow.domain false Rows.interpNilRow.laid) (((OpenSpec.ofChange Rows.interpNilSpec).at F).post enc Tryz.prog Tryz.f4 false true false false) :=
  law_lifted_laid (s := Rows.interpNilSpec) (laid := seatLaid) (T := Tabs) started (by kernel_rfl) Tryz.func4 Tryz.underlying4 rfl rfl
    (by rw [Tryz.params4]; simp)
    (fun H ds hl => by match ds, hl with | [], _ => rfl)
    tabs_of_laid
    (witness_row_atRef (enc := enc) (C := Tryz.checked) false (laidWorld os) #[] rfl (by kernel_rfl) (by kernel_rfl) (by kernel_rfl) (interpNil_witness os enc)) interpNil_law

theorem interpNil_over : Rows.interpNilRow.holds Tryz.pinned (OpenSpec.ofChange Rows.interpNilSpec) :=
  OpenClaim.holds_of_cond 4 Tryz.f4 rfl rfl rfl rfl rfl rfl rfl ⟨rfl, rfl, rfl, rfl, rfl⟩ rfl rfl rfl rfl rfl (by kernel_rfl) Tryz.func4 (by kernel_rfl)
    (of_decide_eq_true (by kernel_rfl)) (by unfold Func.isWrapper; first | (rw [if_pos (by decide +kernel)]; kernel_rfl) | (rw [if_neg (by decide +kernel)]; exact ⟨rfl, rfl⟩))
    (fun os started H enc _ F => by rw [OpenClaim.pre_eq_preRow]; exact interpNil_lifted os started H enc F)

set_option maxRecDepth 100000 in
theorem interpNil_proved : Rows.InterpNilCardSaid :=
  Claim7.holds_tied_plain_at .later [] Rows.interpNilCard.laidKinds Rows.interpNilCard.laidTests Rows.interpNilCard.stood.harness Rows.interpNilCard.stood.looks
    interpNil_over (fun _ h => by cases h) (by kernel_rfl) (fun _ h => by cases h) interpNil_row_tie rfl ⟨rfl, rfl⟩ (by kernel_rfl) (by kernel_rfl)
    (fun f fn hf hfn => by
      obtain rfl : f = 4 := (Option.some.inj ((show Tryz.prog.funcNamed Rows.interpNilRow.func = some 4 by kernel_rfl).symm.trans hf)).symm
      obtain rfl : fn = Tryz.f4 := (Option.some.inj ((Tryz.func4).symm.trans hfn)).symm
      refine ⟨by kernel_rfl, fun j t ht => ?_⟩
      have hall : (Tryz.f4.params.toList.all fun t => !Tryz.prog.wantsStandIn t) = true := by kernel_rfl
      have h1 := List.all_eq_true.1 hall t (List.mem_of_getElem? (i := j) (by rw [Array.getElem?_toList]; exact ht))
      have h2 : Tryz.prog.wantsStandIn t = false := by simpa using h1
      exact h2)
    (by kernel_rfl)

end Go.Proofs.YtgidmgkebkodoaaGreatDoor
