/- The law, reckoned by the kernel: a closed call at zero, and one at a number that isn't. -/
import Derived.Test.YtbanklocochiaaaEvTold
import Derived.Test.YtbanklocochiaaaEvVars
namespace Go.Proofs.Ytbanklocochiaaa
open Go.RowKit

theorem queueNil_reck0 : Ev.reck Try.prog ev_told 1000000 10 [.int .u64 0] = true := by kernel_rfl
def qnNum (n : Int) : Nat → Int := fun k => match k with | 0 => n | _ => n - 1
def qnFacts : List Ev.Fact := [⟨.leq, .complex .f64 0 1, .int .u64 0, .bool false⟩, ⟨.geq, .complex .f64 0 1, .int .u64 1, .bool true⟩, ⟨.sub, .complex .f64 0 1, .int .u64 0, .complex .f64 0 1⟩, ⟨.sub, .complex .f64 0 1, .int .u64 1, .complex .f64 1 1⟩]
def qnLeast : List Ev.Least := [⟨[.int .u64 3, .int .u64 0, .complex .f64 1 1], .int .u64 0⟩]
theorem qn_facts (n : Int) (h0 : 0 < n) (h1 : n < 18446744073709551616) : ∀ f ∈ qnFacts, f.ok (fun _ => .u64) (qnNum n) := by
  intro f hf
  simp only [qnFacts, List.mem_cons, List.not_mem_nil, or_false] at hf
  rcases hf with rfl | rfl | rfl | rfl
  · exact ⟨.u64, n, 0, rfl, rfl, by simp [Ev.intRun, Ev.conc]; omega⟩
  · exact ⟨.u64, n, 1, rfl, rfl, by simp [Ev.intRun, Ev.conc]; omega⟩
  · exact ⟨.u64, n, 0, rfl, rfl, by simp only [Ev.intRun, Ev.conc, qnNum]; rw [IntWalk.u64_in] <;> first | omega | simp⟩
  · exact ⟨.u64, n, 1, rfl, rfl, by simp only [Ev.intRun, Ev.conc, qnNum]; rw [IntWalk.u64_in]; omega⟩
theorem qn_least (n : Int) (h0 : 0 < n) : ∀ m ∈ qnLeast, m.ok (fun _ => .u64) (qnNum n) := by
  intro m hm
  simp only [qnLeast, List.mem_cons, List.not_mem_nil, or_false] at hm
  subst hm
  refine ⟨.u64, 3, [0, n - 1], rfl, ?_⟩
  have : ¬ n - 1 < 0 := by omega
  simp [Ev.leastOf, Ev.conc, this]
theorem queueNil_reck1 (n : Int) (h0 : 0 < n) (h1 : n < 18446744073709551616) :
    @Ev.reck (Ev.tabVars (fun _ => .u64) (qnNum n) qnFacts qnLeast (qn_facts n h0 h1) (qn_least n h0)) Try.prog ev_told 1000000 10 [.complex .f64 0 1] = true := by kernel_rfl
theorem queueNil_walk (n : Nat) (w : World) (hn : n < 18446744073709551616) :
    Calls Try.prog 10 #[.int .u64 (n : Int)] w fun e w' => e = .returned (.bool true) ∧ Below w.heap.size w w' := by
  by_cases h : n = 0
  · subst h
    exact ev_true (args := [.int .u64 0]) rfl queueNil_reck0 w
  · have := @ev_true_at (Ev.tabVars (fun _ => .u64) (qnNum n) qnFacts qnLeast (qn_facts n (by omega) (by omega)) (qn_least n (by omega))) 10 [.complex .f64 0 1] rfl (queueNil_reck1 n (by omega) (by omega)) w
    exact this

open Go.ChangeShapes Go.WideShapes in
open Go.ChangeMaps (open_string) in
set_option maxRecDepth 1000000 in
theorem queueNil_law : LawWalk Try.prog 10 Try.f10 := by
  intro H enc W base args ds p hval hA hsz
  rw [Try.params10] at hA hval hsz
  obtain ⟨v0, vs0, d0, ds0, p0, q0, hargs, rfl, rfl, h0, r0⟩ := trodAll_cons hA
  obtain ⟨rfl, rfl, rfl⟩ := trodAll_nil r0
  obtain rfl : args = #[v0] := by cases args; simp_all
  obtain ⟨n0, rfl, rfl, rfl, wn0⟩ := open_int Try.underlying70 (hval 0 _ v0 rfl rfl) h0
  obtain ⟨s0, rfl, hs0⟩ := u64_nat wn0
  exact queueNil_walk s0 W hs0

set_option maxRecDepth 100000 in
theorem queueNil_lifted (os : Os) (started : os.Started) (H : Type) (enc : TypeId × Value → H) :
    ReturnsInHanded {} Try.checked os 10 .any (Rows.queueNilSpec.pre6 enc Try.prog Try.f10 Rows.queueNilRow.domain false) (Rows.queueNilSpec.post enc Try.prog Try.f10 false true false false) :=
  law_lifted (s := Rows.queueNilSpec) started (by kernel_rfl) Try.func10 Try.underlying4 rfl rfl
    (by rw [Try.params10]; simp only [List.mem_cons, List.not_mem_nil, or_false, forall_eq]; exact ⟨by kernel_rfl, of_decide_eq_true (by kernel_rfl)⟩)
    (fun H ds hl => by match ds, hl with | [_], _ => rfl)
    (ChangeSpec.witness6 (enc := enc) (C := Try.checked) false ⟨#[], #[.int .u64 0], []⟩ 8 (by kernel_rfl) (by kernel_rfl) (by kernel_rfl) (by kernel_rfl)) queueNil_law

theorem queueNil_over : Rows.queueNilRow.holds Try.pinned (OpenSpec.ofChange Rows.queueNilSpec) :=
  OpenClaim.holds_of_wide 10 Try.f10 rfl rfl rfl rfl rfl rfl rfl ⟨rfl, rfl, rfl, rfl, rfl⟩ rfl rfl rfl rfl rfl (by kernel_rfl) Try.func10 (by kernel_rfl)
    (of_decide_eq_true (by kernel_rfl)) (by unfold Func.isWrapper; first | (rw [if_pos (by decide +kernel)]; kernel_rfl) | (rw [if_neg (by decide +kernel)]; exact ⟨rfl, rfl⟩))
    (fun os started H enc _ => queueNil_lifted os started H enc)

theorem queueNil_proved : Rows.QueueNilSaid := queueNil_over

end Go.Proofs.Ytbanklocochiaaa
