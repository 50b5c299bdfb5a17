/- UtfRunes answers true at every input, and every argument reads afterwards as it did: 'utfRunes_proved'. Conditions: none but the statement's own. -/
import Derived.Test.YtgeefnmgejnemaaDoorUtfLaws3
import Derived.Test.YtgeefnmgejnemaaDoorLaid
import Derived.Test.YtgeefnmgejnemaaDoorCards
import Derived.Test.YtgeefnmgejnemaaDoorTie
namespace Go.Proofs.YtgeefnmgejnemaaDoor
open Go.RowKit Utf

open Go.ChangeShapes Go.WideShapes in
open Go.ChangeMaps (open_string) in
theorem utfRunes_law : LawWalkLUpto Tryd.prog 4 Tryd.f4 Tabs := by
  intro H enc W base args ds p hval hA hsz hbulk hT
  rw [Tryd.params4] at hA hval hsz
  obtain ⟨v0, vs0, d0, ds0, p0, q0, hargs, rfl, rfl, h0, r0⟩ := trodAll_cons hA
  obtain ⟨v1, vs1, d1, ds1, p1, q1, rfl, rfl, rfl, h1, r1⟩ := trodAll_cons r0
  obtain ⟨rfl, rfl, rfl⟩ := trodAll_nil r1
  obtain rfl : args = #[v0, v1] := by cases args; simp_all
  obtain ⟨s0, rfl, rfl, rfl, hs0⟩ := open_string Tryd.underlying9 (hval 0 _ v0 rfl rfl) h0
  obtain ⟨n1, rfl, rfl, rfl, wn1⟩ := open_int Tryd.underlying3 (hval 1 _ v1 rfl rfl) h1
  obtain ⟨ha1, hb1⟩ := i64_in wn1
  exact utfRunes_walk s0 n1 W hT (string_reach hsz (j := 0) rfl rfl) ha1 hb1 (by simp only [Rows.uptoBulkAll, Rows.uptoBulk] at hbulk; have e0 := Lib.size_eq s0; omega)

set_option maxRecDepth 100000 in
theorem utfRunes_witness (os : Os) {H : Type} (enc : TypeId × Value → H) :
    (Rows.OpenSpec.upto Rows.utfRunesSpec).preRow enc Tryd.prog Tryd.f4 Rows.utfRunesUptoRow.domain false Rows.utfRunesUptoRow.laid ((laidWorld os).forCall (fun _ _ => 0) ⟨#[], #[.string ByteArray.empty, .int .i64 0], []⟩).memory #[.string ByteArray.empty, .int .i64 0] := by
  have hw : (DataW.whole enc Tryd.prog ((laidWorld os).forCall (fun _ _ => 0) ⟨#[], #[.string ByteArray.empty, .int .i64 0], []⟩).memory Tryd.f4.params.toList (Rows.OpenSpec.upto Rows.utfRunesSpec).vars false (#[.string ByteArray.empty, .int .i64 0] : Array Value).toList 8).map (fun x => (x.1, x.2.1)) =
      some ([.lit (.string []), .lit (.int .i64 0)], []) := by kernel_rfl
  obtain ⟨⟨x1, x2, x3⟩, hx, hx1⟩ := Option.map_eq_some_iff.1 hw
  simp only [Prod.mk.injEq] at hx1
  obtain ⟨rfl, rfl⟩ := hx1
  exact OpenSpec.preRow_of_cond 8 hx (by kernel_rfl) (fun k hk => by cases hk; kernel_rfl) (by kernel_rfl) (laid_met os _)

set_option maxRecDepth 100000 in
theorem utfRunes_lifted (os : Os) (started : os.Started) (H : Type) (enc : TypeId × Value → H) (F : Stop.Interp) :
    ReturnsInHanded {} Tryd.checked os 4 .any ((Rows.OpenSpec.upto Rows.utfRunesSpec).preRow enc Tryd.prog Tryd.f4 Rows.utfRunesUptoRow.domain false Rows.utfRunesUptoRow.laid) (((Rows.OpenSpec.upto Rows.utfRunesSpec).at F).post enc Tryd.prog Tryd.f4 false true false false) :=
  law_lifted_laid_upto (s := Rows.utfRunesSpec) (laid := seatLaid) (T := Tabs) started (by kernel_rfl) Tryd.func4 Tryd.underlying4 rfl rfl
    (by rw [Tryd.params4]; simp only [List.mem_cons, List.not_mem_nil, or_false, forall_eq_or_imp, forall_eq]; exact ⟨⟨by kernel_rfl, of_decide_eq_true (by kernel_rfl)⟩, ⟨by kernel_rfl, of_decide_eq_true (by kernel_rfl)⟩⟩)
    (fun H ds hl => by match ds, hl with | [_, _], _ => rfl)
    tabs_of_laid
    (witness_row_atRef (enc := enc) (C := Tryd.checked) false (laidWorld os) #[.string ByteArray.empty, .int .i64 0] rfl (by kernel_rfl) (by kernel_rfl) (by kernel_rfl) (utfRunes_witness os enc)) utfRunes_law

theorem utfRunes_over : Rows.utfRunesUptoRow.holds Tryd.pinned (Rows.OpenSpec.upto Rows.utfRunesSpec) :=
  OpenClaim.holds_of_cond 4 Tryd.f4 rfl rfl rfl rfl rfl rfl rfl ⟨rfl, rfl, rfl, rfl, rfl⟩ rfl rfl rfl rfl rfl (by kernel_rfl) Tryd.func4 (by kernel_rfl)
    (of_decide_eq_true (by kernel_rfl)) (by unfold Func.isWrapper; first | (rw [if_pos (by decide +kernel)]; kernel_rfl) | (rw [if_neg (by decide +kernel)]; exact ⟨rfl, rfl⟩))
    (fun os started H enc _ F => by rw [OpenClaim.pre_eq_preRow]; exact utfRunes_lifted os started H enc F)

set_option maxRecDepth 100000 in
theorem utfRunes_proved : Rows.UtfRunesUptoCardSaid :=
  Claim7.holds_tied_plain_at .later [] Rows.utfRunesUptoCard.laidKinds Rows.utfRunesUptoCard.laidTests Rows.utfRunesUptoCard.stood.harness Rows.utfRunesUptoCard.stood.looks
    utfRunes_over (fun _ h => by cases h) (by kernel_rfl) (fun _ h => by cases h) utfRunesUpto_row_tie rfl ⟨rfl, rfl⟩ (by kernel_rfl) (by kernel_rfl)
    (fun f fn hf hfn => by
      obtain rfl : f = 4 := (Option.some.inj ((show Tryd.prog.funcNamed Rows.utfRunesUptoRow.func = some 4 by kernel_rfl).symm.trans hf)).symm
      obtain rfl : fn = Tryd.f4 := (Option.some.inj ((Tryd.func4).symm.trans hfn)).symm
      refine ⟨by kernel_rfl, fun j t ht => ?_⟩
      have hall : (Tryd.f4.params.toList.all fun t => !Tryd.prog.wantsStandIn t) = true := by kernel_rfl
      have h1 := List.all_eq_true.1 hall t (List.mem_of_getElem? (by simpa using ht))
      have h2 : Tryd.prog.wantsStandIn t = false := by simpa using h1
      exact h2)
    (by kernel_rfl)

end Go.Proofs.YtgeefnmgejnemaaDoor
