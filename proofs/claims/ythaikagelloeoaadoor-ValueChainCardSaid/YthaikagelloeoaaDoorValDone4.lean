/- ValueChain answers true at every input, and every argument reads afterwards as it did: 'valChain_proved'. Conditions: none but the statement's own. -/
import Derived.Test.YthaikagelloeoaaDoorValChain
import Derived.Test.YthaikagelloeoaaDoorValArg
import Derived.Test.YthaikagelloeoaaDoorLawL
import Derived.Test.YthaikagelloeoaaDoorLaid
import Derived.Test.YthaikagelloeoaaDoorCards
import Derived.Test.YthaikagelloeoaaDoorTie
namespace Go.Proofs.YthaikagelloeoaaDoor
open Go.RowKit Val

open Go.ChangeShapes Go.WideShapes in
open Go.ChangeMaps (open_string) in
theorem valChain_law : LawWalkL Tryd.prog 5 Tryd.f5 Tabs := by
  intro H enc W base args ds p hval hA hsz hT
  rw [Tryd.params5] at hA hval hsz
  obtain ⟨v0, vs0, d0, ds0, p0, q0, hargs, rfl, rfl, h0, r0⟩ := trodAll_cons hA
  obtain ⟨v1, vs1, d1, ds1, p1, q1, rfl, rfl, rfl, h1, r1⟩ := trodAll_cons r0
  obtain ⟨v2, vs2, d2, ds2, p2, q2, rfl, rfl, rfl, h2, r2⟩ := trodAll_cons r1
  obtain ⟨rfl, rfl, rfl⟩ := trodAll_nil r2
  obtain rfl : args = #[v0, v1, v2] := by cases args; simp_all
  obtain ⟨n0, cs0, x0, rfl, hv0, hf0⟩ := open_val (hval 0 _ v0 rfl rfl) h0 hsz (j := 0) rfl rfl
  obtain ⟨n1, cs1, x1, rfl, hv1, hf1⟩ := open_val (hval 1 _ v1 rfl rfl) h1 hsz (j := 1) rfl rfl
  obtain ⟨n2, cs2, x2, rfl, hv2, hf2⟩ := open_val (hval 2 _ v2 rfl rfl) h2 hsz (j := 2) rfl rfl
  exact valChain_walk n0 cs0 x0 n1 cs1 x1 n2 cs2 x2 W hT hv0 hv1 hv2

set_option maxRecDepth 100000 in
theorem valChain_witness (os : Os) {H : Type} (enc : TypeId × Value → H) :
    (OpenSpec.ofChange Rows.valueChainSpec).preRow enc Tryd.prog Tryd.f5 Rows.valueChainRow.domain false Rows.valueChainRow.laid ((laidWorld os).forCall (fun _ _ => 0) ⟨#[], #[.agg #[.int .i64 0, .bool false, .int .i64 0, .string ByteArray.empty, .slice none 0 0, .slice none 0 0], .agg #[.int .i64 0, .bool false, .int .i64 0, .string ByteArray.empty, .slice none 0 0, .slice none 0 0], .agg #[.int .i64 0, .bool false, .int .i64 0, .string ByteArray.empty, .slice none 0 0, .slice none 0 0]], []⟩).memory #[.agg #[.int .i64 0, .bool false, .int .i64 0, .string ByteArray.empty, .slice none 0 0, .slice none 0 0], .agg #[.int .i64 0, .bool false, .int .i64 0, .string ByteArray.empty, .slice none 0 0, .slice none 0 0], .agg #[.int .i64 0, .bool false, .int .i64 0, .string ByteArray.empty, .slice none 0 0, .slice none 0 0]] := by
  have hw : (DataW.whole enc Tryd.prog ((laidWorld os).forCall (fun _ _ => 0) ⟨#[], #[.agg #[.int .i64 0, .bool false, .int .i64 0, .string ByteArray.empty, .slice none 0 0, .slice none 0 0], .agg #[.int .i64 0, .bool false, .int .i64 0, .string ByteArray.empty, .slice none 0 0, .slice none 0 0], .agg #[.int .i64 0, .bool false, .int .i64 0, .string ByteArray.empty, .slice none 0 0, .slice none 0 0]], []⟩).memory Tryd.f5.params.toList (OpenSpec.ofChange Rows.valueChainSpec).vars false (#[.agg #[.int .i64 0, .bool false, .int .i64 0, .string ByteArray.empty, .slice none 0 0, .slice none 0 0], .agg #[.int .i64 0, .bool false, .int .i64 0, .string ByteArray.empty, .slice none 0 0, .slice none 0 0], .agg #[.int .i64 0, .bool false, .int .i64 0, .string ByteArray.empty, .slice none 0 0, .slice none 0 0]] : Array Value).toList 8).map (fun x => (x.1, x.2.1)) =
      some ([.agg [.lit (.int .i64 0), .lit (.bool false), .lit (.int .i64 0), .lit (.string []), .nil, .nil], .agg [.lit (.int .i64 0), .lit (.bool false), .lit (.int .i64 0), .lit (.string []), .nil, .nil], .agg [.lit (.int .i64 0), .lit (.bool false), .lit (.int .i64 0), .lit (.string []), .nil, .nil]], []) := by kernel_rfl
  obtain ⟨⟨x1, x2, x3⟩, hx, hx1⟩ := Option.map_eq_some_iff.1 hw
  simp only [Prod.mk.injEq] at hx1
  obtain ⟨rfl, rfl⟩ := hx1
  exact OpenSpec.preRow_of_cond 8 hx (by kernel_rfl) (fun k hk => by cases hk) (by kernel_rfl) (laid_met os _)

set_option maxRecDepth 100000 in
theorem valChain_lifted (os : Os) (started : os.Started) (H : Type) (enc : TypeId × Value → H) (F : Stop.Interp) :
    ReturnsInHanded {} Tryd.checked os 5 .any ((OpenSpec.ofChange Rows.valueChainSpec).preRow enc Tryd.prog Tryd.f5 Rows.valueChainRow.domain false Rows.valueChainRow.laid) (((OpenSpec.ofChange Rows.valueChainSpec).at F).post enc Tryd.prog Tryd.f5 false true false false) :=
  law_lifted_laid (s := Rows.valueChainSpec) (laid := seatLaid) (T := Tabs) started (by kernel_rfl) Tryd.func5 Tryd.underlying4 rfl rfl
    (by rw [Tryd.params5]; simp only [List.mem_cons, List.not_mem_nil, or_false, forall_eq_or_imp, forall_eq]; exact ⟨⟨by kernel_rfl, of_decide_eq_true (by kernel_rfl)⟩, ⟨by kernel_rfl, of_decide_eq_true (by kernel_rfl)⟩, ⟨by kernel_rfl, of_decide_eq_true (by kernel_rfl)⟩⟩)
    (fun H ds hl => by match ds, hl with | [_, _, _], _ => rfl)
    tabs_of_laid
    (witness_row_atRef (enc := enc) (C := Tryd.checked) false (laidWorld os) #[.agg #[.int .i64 0, .bool false, .int .i64 0, .string ByteArray.empty, .slice none 0 0, .slice none 0 0], .agg #[.int .i64 0, .bool false, .int .i64 0, .string ByteArray.empty, .slice none 0 0, .slice none 0 0], .agg #[.int .i64 0, .bool false, .int .i64 0, .string ByteArray.empty, .slice none 0 0, .slice none 0 0]] rfl (by kernel_rfl) (by kernel_rfl) (by kernel_rfl) (valChain_witness os enc)) valChain_law

theorem valChain_over : Rows.valueChainRow.holds Tryd.pinned (OpenSpec.ofChange Rows.valueChainSpec) :=
  OpenClaim.holds_of_cond 5 Tryd.f5 rfl rfl rfl rfl rfl rfl rfl ⟨rfl, rfl, rfl, rfl, rfl⟩ rfl rfl rfl rfl rfl (by kernel_rfl) Tryd.func5 (by kernel_rfl)
    (of_decide_eq_true (by kernel_rfl)) (by unfold Func.isWrapper; first | (rw [if_pos (by decide +kernel)]; kernel_rfl) | (rw [if_neg (by decide +kernel)]; exact ⟨rfl, rfl⟩))
    (fun os started H enc _ F => by rw [OpenClaim.pre_eq_preRow]; exact valChain_lifted os started H enc F)

set_option maxRecDepth 100000 in
theorem valChain_proved : Rows.ValueChainCardSaid :=
  Claim7.holds_tied_plain_at .later [] Rows.valueChainCard.laidKinds Rows.valueChainCard.laidTests Rows.valueChainCard.stood.harness Rows.valueChainCard.stood.looks
    valChain_over (fun _ h => by cases h) (by kernel_rfl) (fun _ h => by cases h) valueChain_row_tie rfl ⟨rfl, rfl⟩ (by kernel_rfl) (by kernel_rfl)
    (fun f fn hf hfn => by
      obtain rfl : f = 5 := (Option.some.inj ((show Tryd.prog.funcNamed Rows.valueChainRow.func = some 5 by kernel_rfl).symm.trans hf)).symm
      obtain rfl : fn = Tryd.f5 := (Option.some.inj ((Tryd.func5).symm.trans hfn)).symm
      refine ⟨by kernel_rfl, fun j t ht => ?_⟩
      have hall : (Tryd.f5.params.toList.all fun t => !Tryd.prog.wantsStandIn t) = true := by kernel_rfl
      have h1 := List.all_eq_true.1 hall t (List.mem_of_getElem? (by simpa using ht))
      have h2 : Tryd.prog.wantsStandIn t = false := by simpa using h1
      exact h2)
    (by kernel_rfl)

end Go.Proofs.YthaikagelloeoaaDoor
