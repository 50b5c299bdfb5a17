/- The law: every case by itself, and all else is known(). -/
import Derived.Test.YtbanklocochiaaaEvQLA
import Derived.Test.YtbanklocochiaaaEvQLB
import Derived.Test.YtbanklocochiaaaEvQLC
import Derived.Test.YtbanklocochiaaaEvQLD
set_option linter.unusedSimpArgs false
set_option linter.unusedVariables false
namespace Go.Proofs.Ytbanklocochiaaa
open Go.RowKit

def qlVal (l : Nat) (n : Int) : Nat → Value := fun k => match k with | 0 => .int .u64 l | _ => .int .i64 n
theorem ql_one (l : Nat) (n : Int) : ∀ k, (∃ j m, qlVal l n k = .int j m) ∨ ∃ s, qlVal l n k = .string s
  | 0 => .inl ⟨_, _, rfl⟩
  | _ + 1 => .inl ⟨_, _, rfl⟩
def qlF (t u v : Bool) : List Ev.Fact := [⟨.gtr, .complex .f64 0 1, .int .u64 10, .bool t⟩, ⟨.lss, .complex .f64 1 1, .int .i64 0, .bool u⟩, ⟨.gtr, .complex .f64 1 1, .int .i64 20, .bool v⟩]
theorem qlF_ok (l : Nat) (n : Int) (t u v : Bool) (ht : decide (l > 10) = t) (hu : decide (n < 0) = u) (hv : decide (n > 20) = v) : ∀ f ∈ qlF t u v, f.ok (qlVal l n) := by
  intro f hf
  simp only [qlF, List.mem_cons, List.not_mem_nil, or_false] at hf
  rcases hf with rfl | rfl | rfl
  · refine .inl ⟨.u64, l, 10, rfl, rfl, ?_⟩
    have : ((l : Int) > 10) ↔ l > 10 := by omega
    simp only [Ev.intRun, Ev.conc, Option.some.injEq, Value.bool.injEq, ← ht, this]
  · exact .inl ⟨.i64, n, 0, rfl, rfl, by simp only [Ev.intRun, Ev.conc, Option.some.injEq, Value.bool.injEq, ← hu]⟩
  · exact .inl ⟨.i64, n, 20, rfl, rfl, by simp only [Ev.intRun, Ev.conc, Option.some.injEq, Value.bool.injEq, ← hv]⟩
theorem ql_tff (l : Nat) (n : Int) (ht : decide (l > 10) = true) (hu : decide (n < 0) = false) (hv : decide (n > 20) = false) (w : World) :
    Calls Try.prog 11 #[.int .u64 (l : Int), .int .i64 n] w fun e w' => e = .returned (.bool true) ∧ Below w.heap.size w w' := by
  have h : @Ev.reck (Ev.tabVars (qlVal l n) (ql_one l n) (qlF true false false) [] (qlF_ok l n _ _ _ ht hu hv) (fun m hm => by cases hm)) Try.prog { ev_told with sure := [77] } 1000000 11 [.complex .f64 0 1, .complex .f64 1 1] = true := by kernel_rfl
  exact @ev_true_by (Ev.tabVars (qlVal l n) (ql_one l n) (qlF true false false) [] (qlF_ok l n _ _ _ ht hu hv) (fun m hm => by cases hm)) [77] ql_sure _ [.complex .f64 0 1, .complex .f64 1 1] rfl h w
theorem ql_ttf (l : Nat) (n : Int) (ht : decide (l > 10) = true) (hu : decide (n < 0) = true) (hv : decide (n > 20) = false) (w : World) :
    Calls Try.prog 11 #[.int .u64 (l : Int), .int .i64 n] w fun e w' => e = .returned (.bool true) ∧ Below w.heap.size w w' := by
  have h : @Ev.reck (Ev.tabVars (qlVal l n) (ql_one l n) (qlF true true false) [] (qlF_ok l n _ _ _ ht hu hv) (fun m hm => by cases hm)) Try.prog { ev_told with sure := [77] } 1000000 11 [.complex .f64 0 1, .complex .f64 1 1] = true := by kernel_rfl
  exact @ev_true_by (Ev.tabVars (qlVal l n) (ql_one l n) (qlF true true false) [] (qlF_ok l n _ _ _ ht hu hv) (fun m hm => by cases hm)) [77] ql_sure _ [.complex .f64 0 1, .complex .f64 1 1] rfl h w
theorem ql_tft (l : Nat) (n : Int) (ht : decide (l > 10) = true) (hu : decide (n < 0) = false) (hv : decide (n > 20) = true) (w : World) :
    Calls Try.prog 11 #[.int .u64 (l : Int), .int .i64 n] w fun e w' => e = .returned (.bool true) ∧ Below w.heap.size w w' := by
  have h : @Ev.reck (Ev.tabVars (qlVal l n) (ql_one l n) (qlF true false true) [] (qlF_ok l n _ _ _ ht hu hv) (fun m hm => by cases hm)) Try.prog { ev_told with sure := [77] } 1000000 11 [.complex .f64 0 1, .complex .f64 1 1] = true := by kernel_rfl
  exact @ev_true_by (Ev.tabVars (qlVal l n) (ql_one l n) (qlF true false true) [] (qlF_ok l n _ _ _ ht hu hv) (fun m hm => by cases hm)) [77] ql_sure _ [.complex .f64 0 1, .complex .f64 1 1] rfl h w
theorem ql_ftf (l : Nat) (n : Int) (ht : decide (l > 10) = false) (hu : decide (n < 0) = true) (hv : decide (n > 20) = false) (w : World) :
    Calls Try.prog 11 #[.int .u64 (l : Int), .int .i64 n] w fun e w' => e = .returned (.bool true) ∧ Below w.heap.size w w' := by
  have h : @Ev.reck (Ev.tabVars (qlVal l n) (ql_one l n) (qlF false true false) [] (qlF_ok l n _ _ _ ht hu hv) (fun m hm => by cases hm)) Try.prog { ev_told with sure := [77] } 1000000 11 [.complex .f64 0 1, .complex .f64 1 1] = true := by kernel_rfl
  exact @ev_true_by (Ev.tabVars (qlVal l n) (ql_one l n) (qlF false true false) [] (qlF_ok l n _ _ _ ht hu hv) (fun m hm => by cases hm)) [77] ql_sure _ [.complex .f64 0 1, .complex .f64 1 1] rfl h w
theorem ql_fft (l : Nat) (n : Int) (ht : decide (l > 10) = false) (hu : decide (n < 0) = false) (hv : decide (n > 20) = true) (w : World) :
    Calls Try.prog 11 #[.int .u64 (l : Int), .int .i64 n] w fun e w' => e = .returned (.bool true) ∧ Below w.heap.size w w' := by
  have h : @Ev.reck (Ev.tabVars (qlVal l n) (ql_one l n) (qlF false false true) [] (qlF_ok l n _ _ _ ht hu hv) (fun m hm => by cases hm)) Try.prog { ev_told with sure := [77] } 1000000 11 [.complex .f64 0 1, .complex .f64 1 1] = true := by kernel_rfl
  exact @ev_true_by (Ev.tabVars (qlVal l n) (ql_one l n) (qlF false false true) [] (qlF_ok l n _ _ _ ht hu hv) (fun m hm => by cases hm)) [77] ql_sure _ [.complex .f64 0 1, .complex .f64 1 1] rfl h w
theorem queueLast_walk (l : Nat) (n : Int) (w : World) (_hl : l < 18446744073709551616) (_h1 : -9223372036854775808 ≤ n) (_h2 : n ≤ 9223372036854775807) :
    Calls Try.prog 11 #[.int .u64 (l : Int), .int .i64 n] w fun e w' => e = .returned (.bool true) ∧ Below w.heap.size w w' := by
  by_cases hl : l ≤ 10
  · by_cases h0 : n < 0
    · exact ql_ftf l n (by simp; omega) (by simp; omega) (by simp; omega) w
    · by_cases h20 : 20 < n
      · exact ql_fft l n (by simp; omega) (by simp; omega) (by simp; omega) w
      · obtain ⟨m, rfl⟩ : ∃ m : Nat, n = (m : Int) := ⟨n.toNat, by omega⟩
        have hc : l = 0 ∨ l = 1 ∨ l = 2 ∨ l = 3 ∨ l = 4 ∨ l = 5 ∨ l = 6 ∨ l = 7 ∨ l = 8 ∨ l = 9 ∨ l = 10 := by omega
        rcases hc with rfl | rfl | rfl | rfl | rfl | rfl | rfl | rfl | rfl | rfl | rfl
        · exact ql_in (ql_at0 m (by omega)) w
        · exact ql_in (ql_at1 m (by omega)) w
        · exact ql_in (ql_at2 m (by omega)) w
        · exact ql_in (ql_at3 m (by omega)) w
        · exact ql_in (ql_at4 m (by omega)) w
        · exact ql_in (ql_at5 m (by omega)) w
        · exact ql_in (ql_at6 m (by omega)) w
        · exact ql_in (ql_at7 m (by omega)) w
        · exact ql_in (ql_at8 m (by omega)) w
        · exact ql_in (ql_at9 m (by omega)) w
        · exact ql_in (ql_at10 m (by omega)) w
  · by_cases h0 : n < 0
    · exact ql_ttf l n (by simp; omega) (by simp; omega) (by simp; omega) w
    · by_cases h20 : 20 < n
      · exact ql_tft l n (by simp; omega) (by simp; omega) (by simp; omega) w
      · exact ql_tff l n (by simp; omega) (by simp; omega) (by simp; omega) w

open Go.ChangeShapes Go.WideShapes in
open Go.ChangeMaps (open_string) in
set_option maxRecDepth 1000000 in
theorem queueLast_law : LawWalk Try.prog 11 Try.f11 := by
  intro H enc W base args ds p hval hA hsz
  rw [Try.params11] at hA hval hsz
  obtain ⟨v0, vs0, d0, ds0, p0, q0, hargs, rfl, rfl, h0, r0⟩ := trodAll_cons hA
  obtain ⟨v1, vs1, d1, ds1, p1, q1, rfl, rfl, rfl, h1, r1⟩ := trodAll_cons r0
  obtain ⟨rfl, rfl, rfl⟩ := trodAll_nil r1
  obtain rfl : args = #[v0, v1] := by cases args; simp_all
  obtain ⟨n0, rfl, rfl, rfl, wn0⟩ := open_int Try.underlying70 (hval 0 _ v0 rfl rfl) h0
  obtain ⟨s0, rfl, hs0⟩ := u64_nat wn0
  obtain ⟨n1, rfl, rfl, rfl, wn1⟩ := open_int Try.underlying3 (hval 1 _ v1 rfl rfl) h1
  obtain ⟨ha1, hb1⟩ := i64_in wn1
  exact queueLast_walk s0 n1 W hs0 ha1 hb1

set_option maxRecDepth 100000 in
theorem queueLast_lifted (os : Os) (started : os.Started) (H : Type) (enc : TypeId × Value → H) :
    ReturnsInHanded {} Try.checked os 11 .any (Rows.queueLastSpec.pre6 enc Try.prog Try.f11 Rows.queueLastRow.domain false) (Rows.queueLastSpec.post enc Try.prog Try.f11 false true false false) :=
  law_lifted (s := Rows.queueLastSpec) started (by kernel_rfl) Try.func11 Try.underlying4 rfl rfl
    (by rw [Try.params11]; simp only [List.mem_cons, List.not_mem_nil, or_false, forall_eq_or_imp, forall_eq]; exact ⟨⟨by kernel_rfl, of_decide_eq_true (by kernel_rfl)⟩, ⟨by kernel_rfl, of_decide_eq_true (by kernel_rfl)⟩⟩)
    (fun H ds hl => by match ds, hl with | [_, _], _ => rfl)
    (ChangeSpec.witness6 (enc := enc) (C := Try.checked) false ⟨#[], #[.int .u64 0, .int .i64 0], []⟩ 8 (by kernel_rfl) (by kernel_rfl) (by kernel_rfl) (by kernel_rfl)) queueLast_law

theorem queueLast_over : Rows.queueLastRow.holds Try.pinned (OpenSpec.ofChange Rows.queueLastSpec) :=
  OpenClaim.holds_of_wide 11 Try.f11 rfl rfl rfl rfl rfl rfl rfl ⟨rfl, rfl, rfl, rfl, rfl⟩ rfl rfl rfl rfl rfl (by kernel_rfl) Try.func11 (by kernel_rfl)
    (of_decide_eq_true (by kernel_rfl)) (by unfold Func.isWrapper; first | (rw [if_pos (by decide +kernel)]; kernel_rfl) | (rw [if_neg (by decide +kernel)]; exact ⟨rfl, rfl⟩))
    (fun os started H enc _ => queueLast_lifted os started H enc)

theorem queueLast_proved : Rows.QueueLastSaid := queueLast_over

end Go.Proofs.Ytbanklocochiaaa
