/- The law, reckoned by the kernel: by whether the version is 0; what is known of the chapter's rows first. -/
import Derived.Test.YtgidmgkebkodoaaEvToldL
import Derived.Test.YtgidmgkebkodoaaEvVars
namespace Go.Proofs.Ytgidmgkebkodoaa
open Go.RowKit

theorem tableKnown_reck : Ev.reckL Try.prog ev_told 1000000 13 [] = true := by kernel_rfl
theorem tableKnown_sure : Ev.SureOK Try.prog 13 := evL_sure tableKnown_reck
def tnVal (c v : Int) : Nat → Value := fun k => .int .u64 (match k with | 0 => c | _ => v)
theorem tn_one (c v : Int) : ∀ k, (∃ j m, tnVal c v k = .int j m) ∨ (∃ s, tnVal c v k = .string s) ∨ (∃ a, tnVal c v k = .pointer (some a)) ∨ ∃ a m d, tnVal c v k = .slice (some a) m d := fun k => .inl ⟨_, _, rfl⟩
def tnFacts (b : Bool) : List Ev.Fact := [⟨.lss, .complex .f64 1 1, .int .u64 0, .bool false⟩, ⟨.leq, .complex .f64 1 1, .int .u64 0, .bool b⟩, ⟨.eql, .complex .f64 1 1, .int .u64 0, .bool b⟩]
theorem tn_facts (c v : Int) (b : Bool) (h0 : 0 ≤ v) (hb : b = decide (v = 0)) : ∀ f ∈ tnFacts b, f.ok (tnVal c v) := by
  intro f hf
  simp only [tnFacts, List.mem_cons, List.not_mem_nil, or_false] at hf
  subst hb
  rcases hf with rfl | rfl | rfl
  · exact .inl ⟨.u64, v, 0, rfl, rfl, by simp [Ev.intRun, Ev.conc]; omega⟩
  · refine .inl ⟨.u64, v, 0, rfl, rfl, ?_⟩
    have : decide (v ≤ 0) = decide (v = 0) := by by_cases h : v = 0 <;> simp [h] <;> omega
    simp [Ev.intRun, Ev.conc, this]
  · refine .inl ⟨.u64, v, 0, rfl, rfl, ?_⟩
    have : (v == 0) = decide (v = 0) := by by_cases h : v = 0 <;> simp [h]
    simp [Ev.intRun, Ev.conc, this]
theorem tn_least (c v : Int) : ∀ m ∈ ([] : List Ev.Least), m.ok (tnVal c v) := by
  intro m hm
  cases hm
theorem tableNil_reck0 (c v : Int) (h0 : 0 ≤ v) (hb : true = decide (v = 0)) :
    @Ev.reckL (Ev.tabVars (tnVal c v) (tn_one c v) (tnFacts true) [] (tn_facts c v true h0 hb) (tn_least c v)) Try.prog { ev_told with sure := [13] } 1000000 3 [.complex .f64 0 1, .complex .f64 1 1] = true := by kernel_rfl
theorem tableNil_reck1 (c v : Int) (h0 : 0 ≤ v) (hb : false = decide (v = 0)) :
    @Ev.reckL (Ev.tabVars (tnVal c v) (tn_one c v) (tnFacts false) [] (tn_facts c v false h0 hb) (tn_least c v)) Try.prog { ev_told with sure := [13] } 1000000 3 [.complex .f64 0 1, .complex .f64 1 1] = true := by kernel_rfl
theorem tn_sure : ∀ f ∈ [13], Ev.SureOK Try.prog f := by
  intro f hf
  rw [List.mem_singleton.1 hf]
  exact tableKnown_sure
theorem tableNil_walk (c v : Nat) (w : World) (hc : c < 18446744073709551616) (hv : v < 18446744073709551616) :
    Calls Try.prog 3 #[.int .u64 (c : Int), .int .u64 (v : Int)] w fun e w' => e = .returned (.bool true) ∧ Below w.heap.size w w' := by
  by_cases h : v = 0
  · exact @evL_true_by (Ev.tabVars (tnVal c v) (tn_one c v) (tnFacts true) [] (tn_facts c v true (by omega) (by simp [h])) (tn_least c v)) rfl _ tn_sure 3 [.complex .f64 0 1, .complex .f64 1 1] rfl (tableNil_reck0 c v (by omega) (by simp [h])) w
  · exact @evL_true_by (Ev.tabVars (tnVal c v) (tn_one c v) (tnFacts false) [] (tn_facts c v false (by omega) (by simp; omega)) (tn_least c v)) rfl _ tn_sure 3 [.complex .f64 0 1, .complex .f64 1 1] rfl (tableNil_reck1 c v (by omega) (by simp; omega)) w

open Go.ChangeShapes Go.WideShapes in
open Go.ChangeMaps (open_string) in
set_option maxRecDepth 1000000 in
theorem tableNil_law : LawWalk Try.prog 3 Try.f3 := by
  intro H enc W base args ds p hval hA hsz
  rw [Try.params3] at hA hval hsz
  obtain ⟨v0, vs0, d0, ds0, p0, q0, hargs, rfl, rfl, h0, r0⟩ := trodAll_cons hA
  obtain ⟨v1, vs1, d1, ds1, p1, q1, rfl, rfl, rfl, h1, r1⟩ := trodAll_cons r0
  obtain ⟨rfl, rfl, rfl⟩ := trodAll_nil r1
  obtain rfl : args = #[v0, v1] := by cases args; simp_all
  obtain ⟨n0, rfl, rfl, rfl, wn0⟩ := open_int Try.underlying22 (hval 0 _ v0 rfl rfl) h0
  obtain ⟨s0, rfl, hs0⟩ := u64_nat wn0
  obtain ⟨n1, rfl, rfl, rfl, wn1⟩ := open_int Try.underlying22 (hval 1 _ v1 rfl rfl) h1
  obtain ⟨s1, rfl, hs1⟩ := u64_nat wn1
  exact tableNil_walk s0 s1 W hs0 hs1

set_option maxRecDepth 100000 in
theorem tableNil_lifted (os : Os) (started : os.Started) (H : Type) (enc : TypeId × Value → H) :
    ReturnsInHanded {} Try.checked os 3 .any (Rows.tableNilSpec.pre6 enc Try.prog Try.f3 Rows.tableNilRow.domain false) (Rows.tableNilSpec.post enc Try.prog Try.f3 false true false false) :=
  law_lifted (s := Rows.tableNilSpec) started (by kernel_rfl) Try.func3 Try.underlying4 rfl rfl
    (by rw [Try.params3]; simp only [List.mem_cons, List.not_mem_nil, or_false, forall_eq_or_imp, forall_eq]; exact ⟨⟨by kernel_rfl, of_decide_eq_true (by kernel_rfl)⟩, ⟨by kernel_rfl, of_decide_eq_true (by kernel_rfl)⟩⟩)
    (fun H ds hl => by match ds, hl with | [_, _], _ => rfl)
    (ChangeSpec.witness6 (enc := enc) (C := Try.checked) false ⟨#[], #[.int .u64 0, .int .u64 0], []⟩ 8 (by kernel_rfl) (by kernel_rfl) (by kernel_rfl) (by kernel_rfl)) tableNil_law

theorem tableNil_over : Rows.tableNilRow.holds Try.pinned (OpenSpec.ofChange Rows.tableNilSpec) :=
  OpenClaim.holds_of_wide 3 Try.f3 rfl rfl rfl rfl rfl rfl rfl ⟨rfl, rfl, rfl, rfl, rfl⟩ rfl rfl rfl rfl rfl (by kernel_rfl) Try.func3 (by kernel_rfl)
    (of_decide_eq_true (by kernel_rfl)) (by unfold Func.isWrapper; first | (rw [if_pos (by decide +kernel)]; kernel_rfl) | (rw [if_neg (by decide +kernel)]; exact ⟨rfl, rfl⟩))
    (fun os started H enc _ => tableNil_lifted os started H enc)

theorem tableNil_proved : Rows.TableNilSaid := tableNil_over

end Go.Proofs.Ytgidmgkebkodoaa
