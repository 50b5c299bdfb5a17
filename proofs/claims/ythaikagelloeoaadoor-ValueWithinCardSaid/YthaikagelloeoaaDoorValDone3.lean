/- ValueMeasures answers true at every input, and every argument reads afterwards as it did: 'valMeasures_proved'. Conditions: none but the statement's own. ValueWithin answers true at every input, and every argument reads afterwards as it did: 'valWithin_proved'. Conditions: none but the statement's own. -/
import Derived.Test.YthaikagelloeoaaDoorValLaws3
import Derived.Test.YthaikagelloeoaaDoorValArg
import Derived.Test.YthaikagelloeoaaDoorLawL
import Derived.Test.YthaikagelloeoaaDoorLaid
import Derived.Test.YthaikagelloeoaaDoorCards
import Derived.Test.YthaikagelloeoaaDoorTie
namespace Go.Proofs.YthaikagelloeoaaDoor
open Go.RowKit Val

open Go.ChangeShapes Go.WideShapes in
open Go.ChangeMaps (open_string) in
theorem valMeasures_law : LawWalkL Tryd.prog 7 Tryd.f7 Tabs := by
  intro H enc W base args ds p hval hA hsz hT
  rw [Tryd.params7] at hA hval hsz
  obtain ⟨v0, vs0, d0, ds0, p0, q0, hargs, rfl, rfl, h0, r0⟩ := trodAll_cons hA
  obtain ⟨rfl, rfl, rfl⟩ := trodAll_nil r0
  obtain rfl : args = #[v0] := by cases args; simp_all
  obtain ⟨n0, cs0, x0, rfl, hv0, hf0⟩ := open_val (hval 0 _ v0 rfl rfl) h0 hsz (j := 0) rfl rfl
  exact valMeasures_walk n0 cs0 x0 W hT hv0 (hf0 _)

set_option maxRecDepth 100000 in
theorem valMeasures_witness (os : Os) {H : Type} (enc : TypeId × Value → H) :
    (OpenSpec.ofChange Rows.valueMeasuresSpec).preRow enc Tryd.prog Tryd.f7 Rows.valueMeasuresRow.domain false Rows.valueMeasuresRow.laid ((laidWorld os).forCall (fun _ _ => 0) ⟨#[], #[.agg #[.int .i64 0, .bool false, .int .i64 0, .string ByteArray.empty, .slice none 0 0, .slice none 0 0]], []⟩).memory #[.agg #[.int .i64 0, .bool false, .int .i64 0, .string ByteArray.empty, .slice none 0 0, .slice none 0 0]] := by
  have hw : (DataW.whole enc Tryd.prog ((laidWorld os).forCall (fun _ _ => 0) ⟨#[], #[.agg #[.int .i64 0, .bool false, .int .i64 0, .string ByteArray.empty, .slice none 0 0, .slice none 0 0]], []⟩).memory Tryd.f7.params.toList (OpenSpec.ofChange Rows.valueMeasuresSpec).vars false (#[.agg #[.int .i64 0, .bool false, .int .i64 0, .string ByteArray.empty, .slice none 0 0, .slice none 0 0]] : Array Value).toList 8).map (fun x => (x.1, x.2.1)) =
      some ([.agg [.lit (.int .i64 0), .lit (.bool false), .lit (.int .i64 0), .lit (.string []), .nil, .nil]], []) := by kernel_rfl
  obtain ⟨⟨x1, x2, x3⟩, hx, hx1⟩ := Option.map_eq_some_iff.1 hw
  simp only [Prod.mk.injEq] at hx1
  obtain ⟨rfl, rfl⟩ := hx1
  exact OpenSpec.preRow_of_cond 8 hx (by kernel_rfl) (fun k hk => by cases hk) (by kernel_rfl) (laid_met os _)

set_option maxRecDepth 100000 in
theorem valMeasures_lifted (os : Os) (started : os.Started) (H : Type) (enc : TypeId × Value → H) (F : Stop.Interp) :
    ReturnsInHanded {} Tryd.checked os 7 .any ((OpenSpec.ofChange Rows.valueMeasuresSpec).preRow enc Tryd.prog Tryd.f7 Rows.valueMeasuresRow.domain false Rows.valueMeasuresRow.laid) (((OpenSpec.ofChange Rows.valueMeasuresSpec).at F).post enc Tryd.prog Tryd.f7 false true false false) :=
  law_lifted_laid (s := Rows.valueMeasuresSpec) (laid := seatLaid) (T := Tabs) started (by kernel_rfl) Tryd.func7 Tryd.underlying4 rfl rfl
    (by rw [Tryd.params7]; simp only [List.mem_cons, List.not_mem_nil, or_false, forall_eq]; exact ⟨by kernel_rfl, of_decide_eq_true (by kernel_rfl)⟩)
    (fun H ds hl => by match ds, hl with | [_], _ => rfl)
    tabs_of_laid
    (witness_row_atRef (enc := enc) (C := Tryd.checked) false (laidWorld os) #[.agg #[.int .i64 0, .bool false, .int .i64 0, .string ByteArray.empty, .slice none 0 0, .slice none 0 0]] rfl (by kernel_rfl) (by kernel_rfl) (by kernel_rfl) (valMeasures_witness os enc)) valMeasures_law

theorem valMeasures_over : Rows.valueMeasuresRow.holds Tryd.pinned (OpenSpec.ofChange Rows.valueMeasuresSpec) :=
  OpenClaim.holds_of_cond 7 Tryd.f7 rfl rfl rfl rfl rfl rfl rfl ⟨rfl, rfl, rfl, rfl, rfl⟩ rfl rfl rfl rfl rfl (by kernel_rfl) Tryd.func7 (by kernel_rfl)
    (of_decide_eq_true (by kernel_rfl)) (by unfold Func.isWrapper; first | (rw [if_pos (by decide +kernel)]; kernel_rfl) | (rw [if_neg (by decide +kernel)]; exact ⟨rfl, rfl⟩))
    (fun os started H enc _ F => by rw [OpenClaim.pre_eq_preRow]; exact valMeasures_lifted os started H enc F)

set_option maxRecDepth 100000 in
theorem valMeasures_proved : Rows.ValueMeasuresCardSaid :=
  Claim7.holds_tied_plain_at .later [] Rows.valueMeasuresCard.laidKinds Rows.valueMeasuresCard.laidTests Rows.valueMeasuresCard.stood.harness Rows.valueMeasuresCard.stood.looks
    valMeasures_over (fun _ h => by cases h) (by kernel_rfl) (fun _ h => by cases h) valueMeasures_row_tie rfl ⟨rfl, rfl⟩ (by kernel_rfl) (by kernel_rfl)
    (fun f fn hf hfn => by
      obtain rfl : f = 7 := (Option.some.inj ((show Tryd.prog.funcNamed Rows.valueMeasuresRow.func = some 7 by kernel_rfl).symm.trans hf)).symm
      obtain rfl : fn = Tryd.f7 := (Option.some.inj ((Tryd.func7).symm.trans hfn)).symm
      refine ⟨by kernel_rfl, fun j t ht => ?_⟩
      have hall : (Tryd.f7.params.toList.all fun t => !Tryd.prog.wantsStandIn t) = true := by kernel_rfl
      have h1 := List.all_eq_true.1 hall t (List.mem_of_getElem? (by simpa using ht))
      have h2 : Tryd.prog.wantsStandIn t = false := by simpa using h1
      exact h2)
    (by kernel_rfl)


open Go.ChangeShapes Go.WideShapes in
open Go.ChangeMaps (open_string) in
theorem valWithin_law : LawWalkL Tryd.prog 8 Tryd.f8 Tabs := by
  intro H enc W base args ds p hval hA hsz hT
  rw [Tryd.params8] at hA hval hsz
  obtain ⟨v0, vs0, d0, ds0, p0, q0, hargs, rfl, rfl, h0, r0⟩ := trodAll_cons hA
  obtain ⟨rfl, rfl, rfl⟩ := trodAll_nil r0
  obtain rfl : args = #[v0] := by cases args; simp_all
  obtain ⟨n0, cs0, x0, rfl, hv0, hf0⟩ := open_val (hval 0 _ v0 rfl rfl) h0 hsz (j := 0) rfl rfl
  exact valWithin_walk n0 cs0 x0 W hT hv0 (hf0 _)

set_option maxRecDepth 100000 in
theorem valWithin_witness (os : Os) {H : Type} (enc : TypeId × Value → H) :
    (OpenSpec.ofChange Rows.valueWithinSpec).preRow enc Tryd.prog Tryd.f8 Rows.valueWithinRow.domain false Rows.valueWithinRow.laid ((laidWorld os).forCall (fun _ _ => 0) ⟨#[], #[.agg #[.int .i64 0, .bool false, .int .i64 0, .string ByteArray.empty, .slice none 0 0, .slice none 0 0]], []⟩).memory #[.agg #[.int .i64 0, .bool false, .int .i64 0, .string ByteArray.empty, .slice none 0 0, .slice none 0 0]] := by
  have hw : (DataW.whole enc Tryd.prog ((laidWorld os).forCall (fun _ _ => 0) ⟨#[], #[.agg #[.int .i64 0, .bool false, .int .i64 0, .string ByteArray.empty, .slice none 0 0, .slice none 0 0]], []⟩).memory Tryd.f8.params.toList (OpenSpec.ofChange Rows.valueWithinSpec).vars false (#[.agg #[.int .i64 0, .bool false, .int .i64 0, .string ByteArray.empty, .slice none 0 0, .slice none 0 0]] : Array Value).toList 8).map (fun x => (x.1, x.2.1)) =
      some ([.agg [.lit (.int .i64 0), .lit (.bool false), .lit (.int .i64 0), .lit (.string []), .nil, .nil]], []) := by kernel_rfl
  obtain ⟨⟨x1, x2, x3⟩, hx, hx1⟩ := Option.map_eq_some_iff.1 hw
  simp only [Prod.mk.injEq] at hx1
  obtain ⟨rfl, rfl⟩ := hx1
  exact OpenSpec.preRow_of_cond 8 hx (by kernel_rfl) (fun k hk => by cases hk) (by kernel_rfl) (laid_met os _)

set_option maxRecDepth 100000 in
theorem valWithin_lifted (os : Os) (started : os.Started) (H : Type) (enc : TypeId × Value → H) (F : Stop.Interp) :
    ReturnsInHanded {} Tryd.checked os 8 .any ((OpenSpec.ofChange Rows.valueWithinSpec).preRow enc Tryd.prog Tryd.f8 Rows.valueWithinRow.domain false Rows.valueWithinRow.laid) (((OpenSpec.ofChange Rows.valueWithinSpec).at F).post enc Tryd.prog Tryd.f8 false true false false) :=
  law_lifted_laid (s := Rows.valueWithinSpec) (laid := seatLaid) (T := Tabs) started (by kernel_rfl) Tryd.func8 Tryd.underlying4 rfl rfl
    (by rw [Tryd.params8]; simp only [List.mem_cons, List.not_mem_nil, or_false, forall_eq]; exact ⟨by kernel_rfl, of_decide_eq_true (by kernel_rfl)⟩)
    (fun H ds hl => by match ds, hl with | [_], _ => rfl)
    tabs_of_laid
    (witness_row_atRef (enc := enc) (C := Tryd.checked) false (laidWorld os) #[.agg #[.int .i64 0, .bool false, .int .i64 0, .string ByteArray.empty, .slice none 0 0, .slice none 0 0]] rfl (by kernel_rfl) (by kernel_rfl) (by kernel_rfl) (valWithin_witness os enc)) valWithin_law

theorem valWithin_over : Rows.valueWithinRow.holds Tryd.pinned (OpenSpec.ofChange Rows.valueWithinSpec) :=
  OpenClaim.holds_of_cond 8 Tryd.f8 rfl rfl rfl rfl rfl rfl rfl ⟨rfl, rfl, rfl, rfl, rfl⟩ rfl rfl rfl rfl rfl (by kernel_rfl) Tryd.func8 (by kernel_rfl)
    (of_decide_eq_true (by kernel_rfl)) (by unfold Func.isWrapper; first | (rw [if_pos (by decide +kernel)]; kernel_rfl) | (rw [if_neg (by decide +kernel)]; exact ⟨rfl, rfl⟩))
    (fun os started H enc _ F => by rw [OpenClaim.pre_eq_preRow]; exact valWithin_lifted os started H enc F)

set_option maxRecDepth 100000 in
theorem valWithin_proved : Rows.ValueWithinCardSaid :=
  Claim7.holds_tied_plain_at .later [] Rows.valueWithinCard.laidKinds Rows.valueWithinCard.laidTests Rows.valueWithinCard.stood.harness Rows.valueWithinCard.stood.looks
    valWithin_over (fun _ h => by cases h) (by kernel_rfl) (fun _ h => by cases h) valueWithin_row_tie rfl ⟨rfl, rfl⟩ (by kernel_rfl) (by kernel_rfl)
    (fun f fn hf hfn => by
      obtain rfl : f = 8 := (Option.some.inj ((show Tryd.prog.funcNamed Rows.valueWithinRow.func = some 8 by kernel_rfl).symm.trans hf)).symm
      obtain rfl : fn = Tryd.f8 := (Option.some.inj ((Tryd.func8).symm.trans hfn)).symm
      refine ⟨by kernel_rfl, fun j t ht => ?_⟩
      have hall : (Tryd.f8.params.toList.all fun t => !Tryd.prog.wantsStandIn t) = true := by kernel_rfl
      have h1 := List.all_eq_true.1 hall t (List.mem_of_getElem? (by simpa using ht))
      have h2 : Tryd.prog.wantsStandIn t = false := by simpa using h1
      exact h2)
    (by kernel_rfl)

end Go.Proofs.YthaikagelloeoaaDoor
