/- ValueCopies answers true at every input, and every argument reads afterwards as it did: 'valCopies_proved'. Conditions: none but the statement's own. ValueMember answers true at every input, and every argument reads afterwards as it did: 'valMember_proved'. Conditions: none but the statement's own. -/
import Derived.Test.YthaikagelloeoaaDoorValLaws4
import Derived.Test.YthaikagelloeoaaDoorValArg
import Derived.Test.YthaikagelloeoaaDoorLawL
import Derived.Test.YthaikagelloeoaaDoorLaid
import Derived.Test.YthaikagelloeoaaDoorCards
import Derived.Test.YthaikagelloeoaaDoorTie
namespace Go.Proofs.YthaikagelloeoaaDoor
open Go.RowKit Val

open Go.ChangeShapes Go.WideShapes in
open Go.ChangeMaps (open_string) in
theorem valCopies_law : LawWalkL Tryd.prog 6 Tryd.f6 Tabs := by
  intro H enc W base args ds p hval hA hsz hT
  rw [Tryd.params6] at hA hval hsz
  obtain ⟨v0, vs0, d0, ds0, p0, q0, hargs, rfl, rfl, h0, r0⟩ := trodAll_cons hA
  obtain ⟨rfl, rfl, rfl⟩ := trodAll_nil r0
  obtain rfl : args = #[v0] := by cases args; simp_all
  obtain ⟨n0, cs0, x0, rfl, hv0, hf0⟩ := open_val (hval 0 _ v0 rfl rfl) h0 hsz (j := 0) rfl rfl
  exact valCopies_walk n0 cs0 x0 W hT hv0 (hf0 _)

set_option maxRecDepth 100000 in
theorem valCopies_witness (os : Os) {H : Type} (enc : TypeId × Value → H) :
    (OpenSpec.ofChange Rows.valueCopiesSpec).preRow enc Tryd.prog Tryd.f6 Rows.valueCopiesRow.domain false Rows.valueCopiesRow.laid ((laidWorld os).forCall (fun _ _ => 0) ⟨#[], #[.agg #[.int .i64 0, .bool false, .int .i64 0, .string ByteArray.empty, .slice none 0 0, .slice none 0 0]], []⟩).memory #[.agg #[.int .i64 0, .bool false, .int .i64 0, .string ByteArray.empty, .slice none 0 0, .slice none 0 0]] := by
  have hw : (DataW.whole enc Tryd.prog ((laidWorld os).forCall (fun _ _ => 0) ⟨#[], #[.agg #[.int .i64 0, .bool false, .int .i64 0, .string ByteArray.empty, .slice none 0 0, .slice none 0 0]], []⟩).memory Tryd.f6.params.toList (OpenSpec.ofChange Rows.valueCopiesSpec).vars false (#[.agg #[.int .i64 0, .bool false, .int .i64 0, .string ByteArray.empty, .slice none 0 0, .slice none 0 0]] : Array Value).toList 8).map (fun x => (x.1, x.2.1)) =
      some ([.agg [.lit (.int .i64 0), .lit (.bool false), .lit (.int .i64 0), .lit (.string []), .nil, .nil]], []) := by kernel_rfl
  obtain ⟨⟨x1, x2, x3⟩, hx, hx1⟩ := Option.map_eq_some_iff.1 hw
  simp only [Prod.mk.injEq] at hx1
  obtain ⟨rfl, rfl⟩ := hx1
  exact OpenSpec.preRow_of_cond 8 hx (by kernel_rfl) (fun k hk => by cases hk) (by kernel_rfl) (laid_met os _)

set_option maxRecDepth 100000 in
theorem valCopies_lifted (os : Os) (started : os.Started) (H : Type) (enc : TypeId × Value → H) (F : Stop.Interp) :
    ReturnsInHanded {} Tryd.checked os 6 .any ((OpenSpec.ofChange Rows.valueCopiesSpec).preRow enc Tryd.prog Tryd.f6 Rows.valueCopiesRow.domain false Rows.valueCopiesRow.laid) (((OpenSpec.ofChange Rows.valueCopiesSpec).at F).post enc Tryd.prog Tryd.f6 false true false false) :=
  law_lifted_laid (s := Rows.valueCopiesSpec) (laid := seatLaid) (T := Tabs) started (by kernel_rfl) Tryd.func6 Tryd.underlying4 rfl rfl
    (by rw [Tryd.params6]; simp only [List.mem_cons, List.not_mem_nil, or_false, forall_eq]; exact ⟨by kernel_rfl, of_decide_eq_true (by kernel_rfl)⟩)
    (fun H ds hl => by match ds, hl with | [_], _ => rfl)
    tabs_of_laid
    (witness_row_atRef (enc := enc) (C := Tryd.checked) false (laidWorld os) #[.agg #[.int .i64 0, .bool false, .int .i64 0, .string ByteArray.empty, .slice none 0 0, .slice none 0 0]] rfl (by kernel_rfl) (by kernel_rfl) (by kernel_rfl) (valCopies_witness os enc)) valCopies_law

theorem valCopies_over : Rows.valueCopiesRow.holds Tryd.pinned (OpenSpec.ofChange Rows.valueCopiesSpec) :=
  OpenClaim.holds_of_cond 6 Tryd.f6 rfl rfl rfl rfl rfl rfl rfl ⟨rfl, rfl, rfl, rfl, rfl⟩ rfl rfl rfl rfl rfl (by kernel_rfl) Tryd.func6 (by kernel_rfl)
    (of_decide_eq_true (by kernel_rfl)) (by unfold Func.isWrapper; first | (rw [if_pos (by decide +kernel)]; kernel_rfl) | (rw [if_neg (by decide +kernel)]; exact ⟨rfl, rfl⟩))
    (fun os started H enc _ F => by rw [OpenClaim.pre_eq_preRow]; exact valCopies_lifted os started H enc F)

set_option maxRecDepth 100000 in
theorem valCopies_proved : Rows.ValueCopiesCardSaid :=
  Claim7.holds_tied_plain_at .later [] Rows.valueCopiesCard.laidKinds Rows.valueCopiesCard.laidTests Rows.valueCopiesCard.stood.harness Rows.valueCopiesCard.stood.looks
    valCopies_over (fun _ h => by cases h) (by kernel_rfl) (fun _ h => by cases h) valueCopies_row_tie rfl ⟨rfl, rfl⟩ (by kernel_rfl) (by kernel_rfl)
    (fun f fn hf hfn => by
      obtain rfl : f = 6 := (Option.some.inj ((show Tryd.prog.funcNamed Rows.valueCopiesRow.func = some 6 by kernel_rfl).symm.trans hf)).symm
      obtain rfl : fn = Tryd.f6 := (Option.some.inj ((Tryd.func6).symm.trans hfn)).symm
      refine ⟨by kernel_rfl, fun j t ht => ?_⟩
      have hall : (Tryd.f6.params.toList.all fun t => !Tryd.prog.wantsStandIn t) = true := by kernel_rfl
      have h1 := List.all_eq_true.1 hall t (List.mem_of_getElem? (by simpa using ht))
      have h2 : Tryd.prog.wantsStandIn t = false := by simpa using h1
      exact h2)
    (by kernel_rfl)


open Go.ChangeShapes Go.WideShapes in
open Go.ChangeMaps (open_string) in
theorem valMember_law : LawWalkL Tryd.prog 10 Tryd.f10 Tabs := by
  intro H enc W base args ds p hval hA hsz hT
  rw [Tryd.params10] at hA hval hsz
  obtain ⟨v0, vs0, d0, ds0, p0, q0, hargs, rfl, rfl, h0, r0⟩ := trodAll_cons hA
  obtain ⟨v1, vs1, d1, ds1, p1, q1, rfl, rfl, rfl, h1, r1⟩ := trodAll_cons r0
  obtain ⟨rfl, rfl, rfl⟩ := trodAll_nil r1
  obtain rfl : args = #[v0, v1] := by cases args; simp_all
  obtain ⟨n0, cs0, x0, rfl, hv0, hf0⟩ := open_val (hval 0 _ v0 rfl rfl) h0 hsz (j := 0) rfl rfl
  obtain ⟨s1, rfl, rfl, rfl, hs1⟩ := open_string Tryd.underlying9 (hval 1 _ v1 rfl rfl) h1
  exact valMember_walk n0 cs0 x0 s1 W hT hv0 (hf0 _) (string_reach hsz (j := 1) rfl rfl)

set_option maxRecDepth 100000 in
theorem valMember_witness (os : Os) {H : Type} (enc : TypeId × Value → H) :
    (OpenSpec.ofChange Rows.valueMemberSpec).preRow enc Tryd.prog Tryd.f10 Rows.valueMemberRow.domain false Rows.valueMemberRow.laid ((laidWorld os).forCall (fun _ _ => 0) ⟨#[], #[.agg #[.int .i64 0, .bool false, .int .i64 0, .string ByteArray.empty, .slice none 0 0, .slice none 0 0], .string ByteArray.empty], []⟩).memory #[.agg #[.int .i64 0, .bool false, .int .i64 0, .string ByteArray.empty, .slice none 0 0, .slice none 0 0], .string ByteArray.empty] := by
  have hw : (DataW.whole enc Tryd.prog ((laidWorld os).forCall (fun _ _ => 0) ⟨#[], #[.agg #[.int .i64 0, .bool false, .int .i64 0, .string ByteArray.empty, .slice none 0 0, .slice none 0 0], .string ByteArray.empty], []⟩).memory Tryd.f10.params.toList (OpenSpec.ofChange Rows.valueMemberSpec).vars false (#[.agg #[.int .i64 0, .bool false, .int .i64 0, .string ByteArray.empty, .slice none 0 0, .slice none 0 0], .string ByteArray.empty] : Array Value).toList 8).map (fun x => (x.1, x.2.1)) =
      some ([.agg [.lit (.int .i64 0), .lit (.bool false), .lit (.int .i64 0), .lit (.string []), .nil, .nil], .lit (.string [])], []) := by kernel_rfl
  obtain ⟨⟨x1, x2, x3⟩, hx, hx1⟩ := Option.map_eq_some_iff.1 hw
  simp only [Prod.mk.injEq] at hx1
  obtain ⟨rfl, rfl⟩ := hx1
  exact OpenSpec.preRow_of_cond 8 hx (by kernel_rfl) (fun k hk => by cases hk) (by kernel_rfl) (laid_met os _)

set_option maxRecDepth 100000 in
theorem valMember_lifted (os : Os) (started : os.Started) (H : Type) (enc : TypeId × Value → H) (F : Stop.Interp) :
    ReturnsInHanded {} Tryd.checked os 10 .any ((OpenSpec.ofChange Rows.valueMemberSpec).preRow enc Tryd.prog Tryd.f10 Rows.valueMemberRow.domain false Rows.valueMemberRow.laid) (((OpenSpec.ofChange Rows.valueMemberSpec).at F).post enc Tryd.prog Tryd.f10 false true false false) :=
  law_lifted_laid (s := Rows.valueMemberSpec) (laid := seatLaid) (T := Tabs) started (by kernel_rfl) Tryd.func10 Tryd.underlying4 rfl rfl
    (by rw [Tryd.params10]; simp only [List.mem_cons, List.not_mem_nil, or_false, forall_eq_or_imp, forall_eq]; exact ⟨⟨by kernel_rfl, of_decide_eq_true (by kernel_rfl)⟩, ⟨by kernel_rfl, of_decide_eq_true (by kernel_rfl)⟩⟩)
    (fun H ds hl => by match ds, hl with | [_, _], _ => rfl)
    tabs_of_laid
    (witness_row_atRef (enc := enc) (C := Tryd.checked) false (laidWorld os) #[.agg #[.int .i64 0, .bool false, .int .i64 0, .string ByteArray.empty, .slice none 0 0, .slice none 0 0], .string ByteArray.empty] rfl (by kernel_rfl) (by kernel_rfl) (by kernel_rfl) (valMember_witness os enc)) valMember_law

theorem valMember_over : Rows.valueMemberRow.holds Tryd.pinned (OpenSpec.ofChange Rows.valueMemberSpec) :=
  OpenClaim.holds_of_cond 10 Tryd.f10 rfl rfl rfl rfl rfl rfl rfl ⟨rfl, rfl, rfl, rfl, rfl⟩ rfl rfl rfl rfl rfl (by kernel_rfl) Tryd.func10 (by kernel_rfl)
    (of_decide_eq_true (by kernel_rfl)) (by unfold Func.isWrapper; first | (rw [if_pos (by decide +kernel)]; kernel_rfl) | (rw [if_neg (by decide +kernel)]; exact ⟨rfl, rfl⟩))
    (fun os started H enc _ F => by rw [OpenClaim.pre_eq_preRow]; exact valMember_lifted os started H enc F)

set_option maxRecDepth 100000 in
theorem valMember_proved : Rows.ValueMemberCardSaid :=
  Claim7.holds_tied_plain_at .later [] Rows.valueMemberCard.laidKinds Rows.valueMemberCard.laidTests Rows.valueMemberCard.stood.harness Rows.valueMemberCard.stood.looks
    valMember_over (fun _ h => by cases h) (by kernel_rfl) (fun _ h => by cases h) valueMember_row_tie rfl ⟨rfl, rfl⟩ (by kernel_rfl) (by kernel_rfl)
    (fun f fn hf hfn => by
      obtain rfl : f = 10 := (Option.some.inj ((show Tryd.prog.funcNamed Rows.valueMemberRow.func = some 10 by kernel_rfl).symm.trans hf)).symm
      obtain rfl : fn = Tryd.f10 := (Option.some.inj ((Tryd.func10).symm.trans hfn)).symm
      refine ⟨by kernel_rfl, fun j t ht => ?_⟩
      have hall : (Tryd.f10.params.toList.all fun t => !Tryd.prog.wantsStandIn t) = true := by kernel_rfl
      have h1 := List.all_eq_true.1 hall t (List.mem_of_getElem? (by simpa using ht))
      have h2 : Tryd.prog.wantsStandIn t = false := by simpa using h1
      exact h2)
    (by kernel_rfl)

end Go.Proofs.YthaikagelloeoaaDoor
