/- The law, reckoned by the kernel: the number is a variable; the chapter's rows first. -/
import Derived.Test.YtgidmgkebkodoaaGreatEvSubsNil
import Derived.Test.YtgidmgkebkodoaaGreatEvVars
namespace Go.Proofs.YtgidmgkebkodoaaGreat
open Go.RowKit

def snVal (n : Int) : Nat → Value := fun k => .int .i64 (match k with | 0 => n | 1 => IntKind.i64.wrap (n + 1) | _ => IntKind.i64.wrap (n + 2))
theorem sn_one (n : Int) : ∀ k, (∃ j m, snVal n k = .int j m) ∨ (∃ s, snVal n k = .string s) ∨ (∃ a, snVal n k = .pointer (some a)) ∨ ∃ a m d, snVal n k = .slice (some a) m d := fun k => .inl ⟨_, _, rfl⟩
def snFacts : List Ev.Fact := [⟨.add, .complex .f64 0 1, .int .i64 1, .complex .f64 1 1⟩, ⟨.add, .complex .f64 0 1, .int .i64 2, .complex .f64 2 1⟩, ⟨.eql, .complex .f64 0 1, .complex .f64 0 1, .bool true⟩, ⟨.neq, .complex .f64 0 1, .complex .f64 0 1, .bool false⟩]
theorem sn_facts (n : Int) : ∀ f ∈ snFacts, f.ok (snVal n) := by
  intro f hf
  simp only [snFacts, List.mem_cons, List.not_mem_nil, or_false] at hf
  rcases hf with rfl | rfl | rfl | rfl
  · exact .inl ⟨.i64, n, 1, rfl, rfl, rfl⟩
  · exact .inl ⟨.i64, n, 2, rfl, rfl, rfl⟩
  · exact .inl ⟨.i64, n, n, rfl, rfl, by simp [Ev.intRun, Ev.conc]⟩
  · exact .inl ⟨.i64, n, n, rfl, rfl, by simp [Ev.intRun, Ev.conc]⟩
theorem sn_least (n : Int) : ∀ m ∈ ([] : List Ev.Least), m.ok (snVal n) := by
  intro m hm
  cases hm
theorem subsOwn_reck (n : Int) :
    @Ev.reckL (Ev.tabVars (snVal n) (sn_one n) snFacts [] (sn_facts n) (sn_least n)) Tryz.prog { ev_told with sure := [14] } 1000000 4 [.complex .f64 0 1] = true := by kernel_rfl
theorem subsOwn_walk (n : Int) (w : World) (_ : -9223372036854775808 ≤ n) (_ : n ≤ 9223372036854775807) :
    Calls Tryz.prog 4 #[.int .i64 n] w fun e w' => e = .returned (.bool true) ∧ Below w.heap.size w w' :=
  @evL_true_by (Ev.tabVars (snVal n) (sn_one n) snFacts [] (sn_facts n) (sn_least n)) rfl _ sn_sure 4 [.complex .f64 0 1] rfl (subsOwn_reck n) w

open Go.ChangeShapes Go.WideShapes in
open Go.ChangeMaps (open_string) in
set_option maxRecDepth 1000000 in
theorem subsOwn_law : LawWalk Tryz.prog 4 Tryz.f4 := by
  intro H enc W base args ds p hval hA hsz
  rw [Tryz.params4] at hA hval hsz
  obtain ⟨v0, vs0, d0, ds0, p0, q0, hargs, rfl, rfl, h0, r0⟩ := trodAll_cons hA
  obtain ⟨rfl, rfl, rfl⟩ := trodAll_nil r0
  obtain rfl : args = #[v0] := by cases args; simp_all
  obtain ⟨n0, rfl, rfl, rfl, wn0⟩ := open_int Tryz.underlying2 (hval 0 _ v0 rfl rfl) h0
  obtain ⟨ha0, hb0⟩ := i64_in wn0
  exact subsOwn_walk n0 W ha0 hb0

set_option maxRecDepth 100000 in
theorem subsOwn_lifted (os : Os) (started : os.Started) (H : Type) (enc : TypeId × Value → H) :
    ReturnsInHanded {} Tryz.checked os 4 .any (Rows.subsOwnSpec.pre6 enc Tryz.prog Tryz.f4 Rows.subsOwnRow.domain false) (Rows.subsOwnSpec.post enc Tryz.prog Tryz.f4 false true false false) :=
  law_lifted (s := Rows.subsOwnSpec) started (by kernel_rfl) Tryz.func4 Tryz.underlying4 rfl rfl
    (by rw [Tryz.params4]; simp only [List.mem_cons, List.not_mem_nil, or_false, forall_eq]; exact ⟨by kernel_rfl, of_decide_eq_true (by kernel_rfl)⟩)
    (fun H ds hl => by match ds, hl with | [_], _ => rfl)
    (ChangeSpec.witness6 (enc := enc) (C := Tryz.checked) false ⟨#[], #[.int .i64 0], []⟩ 8 (by kernel_rfl) (by kernel_rfl) (by kernel_rfl) (by kernel_rfl)) subsOwn_law

theorem subsOwn_over : Rows.subsOwnRow.holds Tryz.pinned (OpenSpec.ofChange Rows.subsOwnSpec) :=
  OpenClaim.holds_of_wide 4 Tryz.f4 rfl rfl rfl rfl rfl rfl rfl ⟨rfl, rfl, rfl, rfl, rfl⟩ rfl rfl rfl rfl rfl (by kernel_rfl) Tryz.func4 (by kernel_rfl)
    (of_decide_eq_true (by kernel_rfl)) (by unfold Func.isWrapper; first | (rw [if_pos (by decide +kernel)]; kernel_rfl) | (rw [if_neg (by decide +kernel)]; exact ⟨rfl, rfl⟩))
    (fun os started H enc _ => subsOwn_lifted os started H enc)

theorem subsOwn_proved : Rows.SubsOwnSaid := subsOwn_over

end Go.Proofs.YtgidmgkebkodoaaGreat
