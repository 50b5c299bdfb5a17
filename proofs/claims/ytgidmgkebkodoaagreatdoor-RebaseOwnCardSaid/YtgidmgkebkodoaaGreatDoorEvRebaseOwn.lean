/- The law, reckoned by the kernel: the number is a variable; the chapter's rows first. -/
import Derived.Test.YtgidmgkebkodoaaGreatDoorEvToldL
import Derived.Test.YtgidmgkebkodoaaGreatDoorLaidAny
import Derived.Test.YtgidmgkebkodoaaGreatDoorCards
import Derived.Test.YtgidmgkebkodoaaGreatDoorTie
import Derived.Test.YtgidmgkebkodoaaGreatDoorEvVars
namespace Go.Proofs.YtgidmgkebkodoaaGreatDoor
open Go.RowKit

def rnVal (n : Int) : Nat → Value := fun k => .int .i64 (match k with | 0 => n | 1 => IntKind.i64.wrap (n + 1) | _ => IntKind.i64.wrap (n + 2))
theorem rn_one (n : Int) : ∀ k, (∃ j m, rnVal n k = .int j m) ∨ (∃ s, rnVal n k = .string s) ∨ (∃ a, rnVal n k = .pointer (some a)) ∨ ∃ a m d, rnVal n k = .slice (some a) m d := fun k => .inl ⟨_, _, rfl⟩
def rnFacts : List Ev.Fact := [⟨.add, .complex .f64 0 1, .int .i64 1, .complex .f64 1 1⟩, ⟨.add, .complex .f64 0 1, .int .i64 2, .complex .f64 2 1⟩, ⟨.eql, .complex .f64 0 1, .complex .f64 0 1, .bool true⟩, ⟨.neq, .complex .f64 0 1, .complex .f64 0 1, .bool false⟩]
theorem rn_facts (n : Int) : ∀ f ∈ rnFacts, f.ok (rnVal n) := by
  intro f hf
  simp only [rnFacts, List.mem_cons, List.not_mem_nil, or_false] at hf
  rcases hf with rfl | rfl | rfl | rfl
  · exact .inl ⟨.i64, n, 1, rfl, rfl, rfl⟩
  · exact .inl ⟨.i64, n, 2, rfl, rfl, rfl⟩
  · exact .inl ⟨.i64, n, n, rfl, rfl, by simp [Ev.intRun, Ev.conc]⟩
  · exact .inl ⟨.i64, n, n, rfl, rfl, by simp [Ev.intRun, Ev.conc]⟩
theorem rn_least (n : Int) : ∀ m ∈ ([] : List Ev.Least), m.ok (rnVal n) := by
  intro m hm
  cases hm
theorem rebaseKnown_reck : Ev.reckL Tryz.prog ev_told 1000000 26 [] = true := by kernel_rfl
theorem rn_sure : ∀ f ∈ [26], Ev.SureOK Tryz.prog f := by
  intro f hf
  rw [List.mem_singleton.1 hf]
  exact evL_sure rebaseKnown_reck
theorem rebaseOwn_reck (n : Int) :
    @Ev.reckL (Ev.tabVars (rnVal n) (rn_one n) rnFacts [] (rn_facts n) (rn_least n)) Tryz.prog { ev_told with sure := [26] } 1000000 6 [.complex .f64 0 1] = true := by kernel_rfl
theorem rebaseOwn_walk (n : Int) (w : World) (_ : Tabs w) (_ : -9223372036854775808 ≤ n) (_ : n ≤ 9223372036854775807) :
    Calls Tryz.prog 6 #[.int .i64 n] w fun e w' => e = .returned (.bool true) ∧ Below w.heap.size w w' :=
  @evL_true_by (Ev.tabVars (rnVal n) (rn_one n) rnFacts [] (rn_facts n) (rn_least n)) rfl _ rn_sure 6 [.complex .f64 0 1] rfl (rebaseOwn_reck n) w

open Go.ChangeShapes Go.WideShapes in
open Go.ChangeMaps (open_string) in
set_option maxRecDepth 1000000 in
theorem rebaseOwn_law : LawWalkL Tryz.prog 6 Tryz.f6 Tabs := by
  intro H enc W base args ds p hval hA hsz hT
  rw [Tryz.params6] at hA hval hsz
  obtain ⟨v0, vs0, d0, ds0, p0, q0, hargs, rfl, rfl, h0, r0⟩ := trodAll_cons hA
  obtain ⟨rfl, rfl, rfl⟩ := trodAll_nil r0
  obtain rfl : args = #[v0] := by cases args; simp_all
  obtain ⟨n0, rfl, rfl, rfl, wn0⟩ := open_int Tryz.underlying2 (hval 0 _ v0 rfl rfl) h0
  obtain ⟨ha0, hb0⟩ := i64_in wn0
  exact rebaseOwn_walk n0 W hT ha0 hb0

set_option maxRecDepth 100000 in
theorem rebaseOwn_witness (os : Os) {H : Type} (enc : TypeId × Value → H) :
    (OpenSpec.ofChange Rows.rebaseOwnSpec).preRow enc Tryz.prog Tryz.f6 Rows.rebaseOwnRow.domain false Rows.rebaseOwnRow.laid ((laidWorld os).forCall (fun _ _ => 0) ⟨#[], #[.int .i64 0], []⟩).memory #[.int .i64 0] := by
  have hw : (DataW.whole enc Tryz.prog ((laidWorld os).forCall (fun _ _ => 0) ⟨#[], #[.int .i64 0], []⟩).memory Tryz.f6.params.toList (OpenSpec.ofChange Rows.rebaseOwnSpec).vars false (#[.int .i64 0] : Array Value).toList 8).map (fun x => (x.1, x.2.1)) =
      some ([.lit (.int .i64 0)], []) := by kernel_rfl
  obtain ⟨⟨x1, x2, x3⟩, hx, hx1⟩ := Option.map_eq_some_iff.1 hw
  simp only [Prod.mk.injEq] at hx1
  obtain ⟨rfl, rfl⟩ := hx1
  exact OpenSpec.preRow_of_cond 8 hx (by kernel_rfl) (fun k hk => by cases hk) (by kernel_rfl) (laid_met os _)

set_option maxRecDepth 100000 in
theorem rebaseOwn_lifted (os : Os) (started : os.Started) (H : Type) (enc : TypeId × Value → H) (F : Stop.Interp) :
    ReturnsInHanded {} Tryz.checked os 6 .any ((OpenSpec.ofChange Rows.rebaseOwnSpec).preRow enc Tryz.prog Tryz.f6 Rows.rebaseOwnRow.domain false Rows.rebaseOwnRow.laid) (((OpenSpec.ofChange Rows.rebaseOwnSpec).at F).post enc Tryz.prog Tryz.f6 false true false false) :=
  law_lifted_laid (s := Rows.rebaseOwnSpec) (laid := seatLaid) (T := Tabs) started (by kernel_rfl) Tryz.func6 Tryz.underlying4 rfl rfl
    (by rw [Tryz.params6]; simp only [List.mem_cons, List.not_mem_nil, or_false, forall_eq]; exact ⟨by kernel_rfl, of_decide_eq_true (by kernel_rfl)⟩)
    (fun H ds hl => by match ds, hl with | [_], _ => rfl)
    tabs_of_laid
    (witness_row_atRef (enc := enc) (C := Tryz.checked) false (laidWorld os) #[.int .i64 0] rfl (by kernel_rfl) (by kernel_rfl) (by kernel_rfl) (rebaseOwn_witness os enc)) rebaseOwn_law

theorem rebaseOwn_over : Rows.rebaseOwnRow.holds Tryz.pinned (OpenSpec.ofChange Rows.rebaseOwnSpec) :=
  OpenClaim.holds_of_cond 6 Tryz.f6 rfl rfl rfl rfl rfl rfl rfl ⟨rfl, rfl, rfl, rfl, rfl⟩ rfl rfl rfl rfl rfl (by kernel_rfl) Tryz.func6 (by kernel_rfl)
    (of_decide_eq_true (by kernel_rfl)) (by unfold Func.isWrapper; first | (rw [if_pos (by decide +kernel)]; kernel_rfl) | (rw [if_neg (by decide +kernel)]; exact ⟨rfl, rfl⟩))
    (fun os started H enc _ F => by rw [OpenClaim.pre_eq_preRow]; exact rebaseOwn_lifted os started H enc F)

set_option maxRecDepth 100000 in
theorem rebaseOwn_proved : Rows.RebaseOwnCardSaid :=
  Claim7.holds_tied_plain_at .later [] Rows.rebaseOwnCard.laidKinds Rows.rebaseOwnCard.laidTests Rows.rebaseOwnCard.stood.harness Rows.rebaseOwnCard.stood.looks
    rebaseOwn_over (fun _ h => by cases h) (by kernel_rfl) (fun _ h => by cases h) rebaseOwn_row_tie rfl ⟨rfl, rfl⟩ (by kernel_rfl) (by kernel_rfl)
    (fun f fn hf hfn => by
      obtain rfl : f = 6 := (Option.some.inj ((show Tryz.prog.funcNamed Rows.rebaseOwnRow.func = some 6 by kernel_rfl).symm.trans hf)).symm
      obtain rfl : fn = Tryz.f6 := (Option.some.inj ((Tryz.func6).symm.trans hfn)).symm
      refine ⟨by kernel_rfl, fun j t ht => ?_⟩
      have hall : (Tryz.f6.params.toList.all fun t => !Tryz.prog.wantsStandIn t) = true := by kernel_rfl
      have h1 := List.all_eq_true.1 hall t (List.mem_of_getElem? (i := j) (by rw [Array.getElem?_toList]; exact ht))
      have h2 : Tryz.prog.wantsStandIn t = false := by simpa using h1
      exact h2)
    (by kernel_rfl)

end Go.Proofs.YtgidmgkebkodoaaGreatDoor
