/- UtfHalves answers true at every input, and every argument reads afterwards as it did: 'utfHalves_proved'. Conditions: none but the statement's own. -/
import Derived.Test.YtgeefnmgejnemaaDoorUtfHalves
import Derived.Test.YtgeefnmgejnemaaDoorLaid
import Derived.Test.YtgeefnmgejnemaaDoorCards
import Derived.Test.YtgeefnmgejnemaaDoorTie
namespace Go.Proofs.YtgeefnmgejnemaaDoor
open Go.RowKit Utf

open Go.ChangeShapes Go.WideShapes in
open Go.ChangeMaps (open_string) in
theorem utfHalves_law : LawWalkL Tryd.prog 8 Tryd.f8 Tabs := by
  intro H enc W base args ds p hval hA hsz hT
  rw [Tryd.params8] at hA hval hsz
  obtain ⟨v0, vs0, d0, ds0, p0, q0, hargs, rfl, rfl, h0, r0⟩ := trodAll_cons hA
  obtain ⟨v1, vs1, d1, ds1, p1, q1, rfl, rfl, rfl, h1, r1⟩ := trodAll_cons r0
  obtain ⟨v2, vs2, d2, ds2, p2, q2, rfl, rfl, rfl, h2, r2⟩ := trodAll_cons r1
  obtain ⟨rfl, rfl, rfl⟩ := trodAll_nil r2
  obtain rfl : args = #[v0, v1, v2] := by cases args; simp_all
  obtain ⟨n0, rfl, rfl, rfl, wn0⟩ := open_int Tryd.underlying3 (hval 0 _ v0 rfl rfl) h0
  obtain ⟨ha0, hb0⟩ := i64_in wn0
  obtain ⟨n1, rfl, rfl, rfl, wn1⟩ := open_int Tryd.underlying3 (hval 1 _ v1 rfl rfl) h1
  obtain ⟨ha1, hb1⟩ := i64_in wn1
  obtain ⟨b2, rfl, rfl, rfl⟩ := open_bool Tryd.underlying4 (hval 2 _ v2 rfl rfl) h2
  exact utfHalves_walk n0 n1 b2 W hT ha0 hb0 ha1 hb1

set_option maxRecDepth 100000 in
theorem utfHalves_witness (os : Os) {H : Type} (enc : TypeId × Value → H) :
    (OpenSpec.ofChange Rows.utfHalvesSpec).preRow enc Tryd.prog Tryd.f8 Rows.utfHalvesRow.domain false Rows.utfHalvesRow.laid ((laidWorld os).forCall (fun _ _ => 0) ⟨#[], #[.int .i64 0, .int .i64 0, .bool false], []⟩).memory #[.int .i64 0, .int .i64 0, .bool false] := by
  have hw : (DataW.whole enc Tryd.prog ((laidWorld os).forCall (fun _ _ => 0) ⟨#[], #[.int .i64 0, .int .i64 0, .bool false], []⟩).memory Tryd.f8.params.toList (OpenSpec.ofChange Rows.utfHalvesSpec).vars false (#[.int .i64 0, .int .i64 0, .bool false] : Array Value).toList 8).map (fun x => (x.1, x.2.1)) =
      some ([.lit (.int .i64 0), .lit (.int .i64 0), .lit (.bool false)], []) := by kernel_rfl
  obtain ⟨⟨x1, x2, x3⟩, hx, hx1⟩ := Option.map_eq_some_iff.1 hw
  simp only [Prod.mk.injEq] at hx1
  obtain ⟨rfl, rfl⟩ := hx1
  exact OpenSpec.preRow_of_cond 8 hx (by kernel_rfl) (fun k hk => by cases hk) (by kernel_rfl) (laid_met os _)

set_option maxRecDepth 100000 in
theorem utfHalves_lifted (os : Os) (started : os.Started) (H : Type) (enc : TypeId × Value → H) (F : Stop.Interp) :
    ReturnsInHanded {} Tryd.checked os 8 .any ((OpenSpec.ofChange Rows.utfHalvesSpec).preRow enc Tryd.prog Tryd.f8 Rows.utfHalvesRow.domain false Rows.utfHalvesRow.laid) (((OpenSpec.ofChange Rows.utfHalvesSpec).at F).post enc Tryd.prog Tryd.f8 false true false false) :=
  law_lifted_laid (s := Rows.utfHalvesSpec) (laid := seatLaid) (T := Tabs) started (by kernel_rfl) Tryd.func8 Tryd.underlying4 rfl rfl
    (by rw [Tryd.params8]; simp only [List.mem_cons, List.not_mem_nil, or_false, forall_eq_or_imp, forall_eq]; exact ⟨⟨by kernel_rfl, of_decide_eq_true (by kernel_rfl)⟩, ⟨by kernel_rfl, of_decide_eq_true (by kernel_rfl)⟩, ⟨by kernel_rfl, of_decide_eq_true (by kernel_rfl)⟩⟩)
    (fun H ds hl => by match ds, hl with | [_, _, _], _ => rfl)
    tabs_of_laid
    (witness_row_atRef (enc := enc) (C := Tryd.checked) false (laidWorld os) #[.int .i64 0, .int .i64 0, .bool false] rfl (by kernel_rfl) (by kernel_rfl) (by kernel_rfl) (utfHalves_witness os enc)) utfHalves_law

theorem utfHalves_over : Rows.utfHalvesRow.holds Tryd.pinned (OpenSpec.ofChange Rows.utfHalvesSpec) :=
  OpenClaim.holds_of_cond 8 Tryd.f8 rfl rfl rfl rfl rfl rfl rfl ⟨rfl, rfl, rfl, rfl, rfl⟩ rfl rfl rfl rfl rfl (by kernel_rfl) Tryd.func8 (by kernel_rfl)
    (of_decide_eq_true (by kernel_rfl)) (by unfold Func.isWrapper; first | (rw [if_pos (by decide +kernel)]; kernel_rfl) | (rw [if_neg (by decide +kernel)]; exact ⟨rfl, rfl⟩))
    (fun os started H enc _ F => by rw [OpenClaim.pre_eq_preRow]; exact utfHalves_lifted os started H enc F)

set_option maxRecDepth 100000 in
theorem utfHalves_proved : Rows.UtfHalvesCardSaid :=
  Claim7.holds_tied_plain_at .later [] Rows.utfHalvesCard.laidKinds Rows.utfHalvesCard.laidTests Rows.utfHalvesCard.stood.harness Rows.utfHalvesCard.stood.looks
    utfHalves_over (fun _ h => by cases h) (by kernel_rfl) (fun _ h => by cases h) utfHalves_row_tie rfl ⟨rfl, rfl⟩ (by kernel_rfl) (by kernel_rfl)
    (fun f fn hf hfn => by
      obtain rfl : f = 8 := (Option.some.inj ((show Tryd.prog.funcNamed Rows.utfHalvesRow.func = some 8 by kernel_rfl).symm.trans hf)).symm
      obtain rfl : fn = Tryd.f8 := (Option.some.inj ((Tryd.func8).symm.trans hfn)).symm
      refine ⟨by kernel_rfl, fun j t ht => ?_⟩
      have hall : (Tryd.f8.params.toList.all fun t => !Tryd.prog.wantsStandIn t) = true := by kernel_rfl
      have h1 := List.all_eq_true.1 hall t (List.mem_of_getElem? (by simpa using ht))
      have h2 : Tryd.prog.wantsStandIn t = false := by simpa using h1
      exact h2)
    (by kernel_rfl)

end Go.Proofs.YtgeefnmgejnemaaDoor
