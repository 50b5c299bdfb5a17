/- The law, reckoned by the kernel: a call at two numbers that it doesn't know, by what is known of them. -/
import Derived.Test.YtbanklocochiaaaEvTold
import Derived.Test.YtbanklocochiaaaEvVars
set_option linter.unusedSimpArgs false
set_option linter.unusedVariables false
namespace Go.Proofs.Ytbanklocochiaaa
open Go.RowKit

def lpV (k : Nat) : Value := .complex .f64 k 1
def lpU (n : Int) : Value := .int .u64 n
def lpNum (a b : Nat) : Nat → Int := fun k => match k with | 0 => a | 1 => b | 2 => a + 1 | _ => (b : Int) - a
abbrev lpVars (a b : Nat) (fs : List Ev.Fact) (hf : ∀ f ∈ fs, f.ok (fun _ => .u64) (lpNum a b)) : Ev.Vars := Ev.tabVars (fun _ => .u64) (lpNum a b) fs [] hf (fun m hm => by cases hm)
theorem lp_calls {a b : Nat} {fs : List Ev.Fact} (hf : ∀ f ∈ fs, f.ok (fun _ => .u64) (lpNum a b)) (h : @Ev.reck (lpVars a b fs hf) Try.prog ev_told 1000000 7 [lpV 0, lpV 1] = true) (w : World) :
    Calls Try.prog 7 #[.int .u64 (a : Int), .int .u64 (b : Int)] w fun e w' => e = .returned (.bool true) ∧ Below w.heap.size w w' :=
  @ev_true_at (lpVars a b fs hf) 7 [lpV 0, lpV 1] rfl h w

section
variable {a b : Nat}
theorem lp_bin {op : BinOp} {i j : Nat} {r : Value} (h : Ev.intRun op .u64 (lpNum a b i) (lpNum a b j) = some (Ev.conc (fun _ => .u64) (lpNum a b) r)) : (Ev.Fact.mk op (lpV i) (lpV j) r).ok (fun _ => .u64) (lpNum a b) := ⟨.u64, _, _, rfl, rfl, h⟩
theorem lp_con {op : BinOp} {i : Nat} {c : Int} {r : Value} (h : Ev.intRun op .u64 (lpNum a b i) c = some (Ev.conc (fun _ => .u64) (lpNum a b) r)) : (Ev.Fact.mk op (lpV i) (lpU c) r).ok (fun _ => .u64) (lpNum a b) := ⟨.u64, _, _, rfl, rfl, h⟩
theorem lp_max (i : Nat) (t : Bool) (h : (lpNum a b i > 4611686018427387903) ↔ t = true) : (Ev.Fact.mk .gtr (lpV i) (lpU 4611686018427387903) (.bool t)).ok (fun _ => .u64) (lpNum a b) := lp_con (by
  simp only [Ev.intRun, Ev.conc, Option.some.injEq, Value.bool.injEq]
  cases t <;> simp_all)
theorem lp_rem (i : Nat) (r x : Nat) (hx : lpNum a b i = (x : Int)) (h : x % 3 = r) : (Ev.Fact.mk .rem (lpV i) (lpU 3) (lpU (r : Int))).ok (fun _ => .u64) (lpNum a b) := lp_con (by
  simp only [Ev.intRun, Ev.conc, lpU, hx]
  rw [if_neg (by decide)]
  congr 2
  rw [Int.tmod_eq_emod_of_nonneg (by omega)]
  omega)
theorem lp_same (i : Nat) : (Ev.Fact.mk .eql (lpV i) (lpV i) (.bool true)).ok (fun _ => .u64) (lpNum a b) := lp_bin (by simp [Ev.intRun, Ev.conc])
end
def lp1F : List Ev.Fact := [⟨.gtr, lpV 0, lpU 4611686018427387903, .bool true⟩]
theorem lp1_ok (a b : Nat) (ha : a < 18446744073709551616) (hb : b < 18446744073709551616) (h1 : 4611686018427387903 < a) : ∀ f ∈ lp1F, f.ok (fun _ => .u64) (lpNum a b) := by
  intro f hf
  simp only [lp1F, List.mem_cons, List.not_mem_nil, or_false] at hf
  rcases hf with rfl
  · exact lp_max 0 true (by simp only [lpNum]; simp only [iff_true]; omega)
theorem lp1_reck (a b : Nat) (ha : a < 18446744073709551616) (hb : b < 18446744073709551616) (h1 : 4611686018427387903 < a) : @Ev.reck (lpVars a b lp1F (lp1_ok a b ha hb h1)) Try.prog ev_told 1000000 7 [lpV 0, lpV 1] = true := by kernel_rfl
def lp20F : List Ev.Fact := [⟨.gtr, lpV 0, lpU 4611686018427387903, .bool false⟩, ⟨.rem, lpV 0, lpU 3, lpU 0⟩, ⟨.gtr, lpV 1, lpU 4611686018427387903, .bool true⟩, ⟨.eql, lpV 0, lpV 0, .bool true⟩]
theorem lp20_ok (a b : Nat) (ha : a < 18446744073709551616) (hb : b < 18446744073709551616) (h1 : a ≤ 4611686018427387903) (h2 : 4611686018427387903 < b) (h3 : a % 3 = 0) : ∀ f ∈ lp20F, f.ok (fun _ => .u64) (lpNum a b) := by
  intro f hf
  simp only [lp20F, List.mem_cons, List.not_mem_nil, or_false] at hf
  rcases hf with rfl | rfl | rfl | rfl
  · exact lp_max 0 false (by simp only [lpNum]; simp only [Bool.false_eq_true, iff_false]; omega)
  · exact lp_rem 0 0 a rfl h3
  · exact lp_max 1 true (by simp only [lpNum]; simp only [iff_true]; omega)
  · exact lp_same 0
theorem lp20_reck (a b : Nat) (ha : a < 18446744073709551616) (hb : b < 18446744073709551616) (h1 : a ≤ 4611686018427387903) (h2 : 4611686018427387903 < b) (h3 : a % 3 = 0) : @Ev.reck (lpVars a b lp20F (lp20_ok a b ha hb h1 h2 h3)) Try.prog ev_told 1000000 7 [lpV 0, lpV 1] = true := by kernel_rfl
def lp30F : List Ev.Fact := [⟨.gtr, lpV 0, lpU 4611686018427387903, .bool false⟩, ⟨.rem, lpV 0, lpU 3, lpU 0⟩, ⟨.gtr, lpV 1, lpU 4611686018427387903, .bool false⟩, ⟨.eql, lpV 0, lpV 0, .bool true⟩, ⟨.leq, lpV 1, lpV 0, .bool true⟩]
theorem lp30_ok (a b : Nat) (ha : a < 18446744073709551616) (hb : b < 18446744073709551616) (h1 : a ≤ 4611686018427387903) (h2 : b ≤ 4611686018427387903) (h3 : a % 3 = 0) (h4 : b ≤ a) : ∀ f ∈ lp30F, f.ok (fun _ => .u64) (lpNum a b) := by
  intro f hf
  simp only [lp30F, List.mem_cons, List.not_mem_nil, or_false] at hf
  rcases hf with rfl | rfl | rfl | rfl | rfl
  · exact lp_max 0 false (by simp only [lpNum]; simp only [Bool.false_eq_true, iff_false]; omega)
  · exact lp_rem 0 0 a rfl h3
  · exact lp_max 1 false (by simp only [lpNum]; simp only [Bool.false_eq_true, iff_false]; omega)
  · exact lp_same 0
  · exact lp_bin (by simp only [Ev.intRun, Ev.conc, lpNum]; simp; omega)
theorem lp30_reck (a b : Nat) (ha : a < 18446744073709551616) (hb : b < 18446744073709551616) (h1 : a ≤ 4611686018427387903) (h2 : b ≤ 4611686018427387903) (h3 : a % 3 = 0) (h4 : b ≤ a) : @Ev.reck (lpVars a b lp30F (lp30_ok a b ha hb h1 h2 h3 h4)) Try.prog ev_told 1000000 7 [lpV 0, lpV 1] = true := by kernel_rfl
def lp40F : List Ev.Fact := [⟨.gtr, lpV 0, lpU 4611686018427387903, .bool false⟩, ⟨.rem, lpV 0, lpU 3, lpU 0⟩, ⟨.gtr, lpV 1, lpU 4611686018427387903, .bool false⟩, ⟨.eql, lpV 0, lpV 0, .bool true⟩, ⟨.leq, lpV 1, lpV 0, .bool false⟩, ⟨.add, lpV 0, lpU 1, lpV 2⟩, ⟨.gtr, lpV 1, lpV 2, .bool true⟩, ⟨.sub, lpV 1, lpV 0, lpV 3⟩, ⟨.gtr, lpV 3, lpU 1, .bool true⟩]
theorem lp40_ok (a b : Nat) (ha : a < 18446744073709551616) (hb : b < 18446744073709551616) (h1 : a ≤ 4611686018427387903) (h2 : b ≤ 4611686018427387903) (h3 : a % 3 = 0) (h4 : a + 1 < b) : ∀ f ∈ lp40F, f.ok (fun _ => .u64) (lpNum a b) := by
  intro f hf
  simp only [lp40F, List.mem_cons, List.not_mem_nil, or_false] at hf
  rcases hf with rfl | rfl | rfl | rfl | rfl | rfl | rfl | rfl | rfl
  · exact lp_max 0 false (by simp only [lpNum]; simp only [Bool.false_eq_true, iff_false]; omega)
  · exact lp_rem 0 0 a rfl h3
  · exact lp_max 1 false (by simp only [lpNum]; simp only [Bool.false_eq_true, iff_false]; omega)
  · exact lp_same 0
  · exact lp_bin (by simp only [Ev.intRun, Ev.conc, lpNum]; simp; omega)
  · exact lp_con (by simp only [Ev.intRun, Ev.conc, lpV, lpNum]; rw [IntWalk.u64_in] <;> omega)
  · exact lp_bin (by simp only [Ev.intRun, Ev.conc, lpNum]; simp; omega)
  · exact lp_bin (by simp only [Ev.intRun, Ev.conc, lpV, lpNum]; rw [IntWalk.u64_in] <;> omega)
  · exact lp_con (by simp only [Ev.intRun, Ev.conc, lpNum]; simp; omega)
theorem lp40_reck (a b : Nat) (ha : a < 18446744073709551616) (hb : b < 18446744073709551616) (h1 : a ≤ 4611686018427387903) (h2 : b ≤ 4611686018427387903) (h3 : a % 3 = 0) (h4 : a + 1 < b) : @Ev.reck (lpVars a b lp40F (lp40_ok a b ha hb h1 h2 h3 h4)) Try.prog ev_told 1000000 7 [lpV 0, lpV 1] = true := by kernel_rfl
def lp50F : List Ev.Fact := [⟨.gtr, lpV 0, lpU 4611686018427387903, .bool false⟩, ⟨.rem, lpV 0, lpU 3, lpU 0⟩, ⟨.rem, lpV 1, lpU 3, lpU 1⟩, ⟨.gtr, lpV 1, lpU 4611686018427387903, .bool false⟩, ⟨.eql, lpV 0, lpV 0, .bool true⟩, ⟨.eql, lpV 1, lpV 1, .bool true⟩, ⟨.leq, lpV 1, lpV 0, .bool false⟩, ⟨.add, lpV 0, lpU 1, lpV 1⟩, ⟨.gtr, lpV 1, lpV 1, .bool false⟩, ⟨.sub, lpV 1, lpV 0, lpU 1⟩]
theorem lp50_ok (a b : Nat) (ha : a < 18446744073709551616) (hb : b < 18446744073709551616) (h1 : a ≤ 4611686018427387903) (h2 : b ≤ 4611686018427387903) (h3 : a % 3 = 0) (h4 : b = a + 1) : ∀ f ∈ lp50F, f.ok (fun _ => .u64) (lpNum a b) := by
  intro f hf
  simp only [lp50F, List.mem_cons, List.not_mem_nil, or_false] at hf
  rcases hf with rfl | rfl | rfl | rfl | rfl | rfl | rfl | rfl | rfl | rfl
  · exact lp_max 0 false (by simp only [lpNum]; simp only [Bool.false_eq_true, iff_false]; omega)
  · exact lp_rem 0 0 a rfl h3
  · exact lp_rem 1 1 b rfl (by omega)
  · exact lp_max 1 false (by simp only [lpNum]; simp only [Bool.false_eq_true, iff_false]; omega)
  · exact lp_same 0
  · exact lp_same 1
  · exact lp_bin (by simp only [Ev.intRun, Ev.conc, lpNum]; simp; omega)
  · exact lp_con (by simp only [Ev.intRun, Ev.conc, lpV, lpNum]; rw [IntWalk.u64_in] <;> first | omega | (subst h4; simp))
  · exact lp_bin (by simp [Ev.intRun, Ev.conc])
  · exact lp_bin (by simp only [Ev.intRun, Ev.conc, lpU, lpNum]; rw [IntWalk.u64_in] <;> first | omega | (subst h4; congr 2; omega))
theorem lp50_reck (a b : Nat) (ha : a < 18446744073709551616) (hb : b < 18446744073709551616) (h1 : a ≤ 4611686018427387903) (h2 : b ≤ 4611686018427387903) (h3 : a % 3 = 0) (h4 : b = a + 1) : @Ev.reck (lpVars a b lp50F (lp50_ok a b ha hb h1 h2 h3 h4)) Try.prog ev_told 1000000 7 [lpV 0, lpV 1] = true := by kernel_rfl
def lp21F : List Ev.Fact := [⟨.gtr, lpV 0, lpU 4611686018427387903, .bool false⟩, ⟨.rem, lpV 0, lpU 3, lpU 1⟩, ⟨.gtr, lpV 1, lpU 4611686018427387903, .bool true⟩, ⟨.eql, lpV 0, lpV 0, .bool true⟩]
theorem lp21_ok (a b : Nat) (ha : a < 18446744073709551616) (hb : b < 18446744073709551616) (h1 : a ≤ 4611686018427387903) (h2 : 4611686018427387903 < b) (h3 : a % 3 = 1) : ∀ f ∈ lp21F, f.ok (fun _ => .u64) (lpNum a b) := by
  intro f hf
  simp only [lp21F, List.mem_cons, List.not_mem_nil, or_false] at hf
  rcases hf with rfl | rfl | rfl | rfl
  · exact lp_max 0 false (by simp only [lpNum]; simp only [Bool.false_eq_true, iff_false]; omega)
  · exact lp_rem 0 1 a rfl h3
  · exact lp_max 1 true (by simp only [lpNum]; simp only [iff_true]; omega)
  · exact lp_same 0
theorem lp21_reck (a b : Nat) (ha : a < 18446744073709551616) (hb : b < 18446744073709551616) (h1 : a ≤ 4611686018427387903) (h2 : 4611686018427387903 < b) (h3 : a % 3 = 1) : @Ev.reck (lpVars a b lp21F (lp21_ok a b ha hb h1 h2 h3)) Try.prog ev_told 1000000 7 [lpV 0, lpV 1] = true := by kernel_rfl
def lp31F : List Ev.Fact := [⟨.gtr, lpV 0, lpU 4611686018427387903, .bool false⟩, ⟨.rem, lpV 0, lpU 3, lpU 1⟩, ⟨.gtr, lpV 1, lpU 4611686018427387903, .bool false⟩, ⟨.eql, lpV 0, lpV 0, .bool true⟩, ⟨.leq, lpV 1, lpV 0, .bool true⟩]
theorem lp31_ok (a b : Nat) (ha : a < 18446744073709551616) (hb : b < 18446744073709551616) (h1 : a ≤ 4611686018427387903) (h2 : b ≤ 4611686018427387903) (h3 : a % 3 = 1) (h4 : b ≤ a) : ∀ f ∈ lp31F, f.ok (fun _ => .u64) (lpNum a b) := by
  intro f hf
  simp only [lp31F, List.mem_cons, List.not_mem_nil, or_false] at hf
  rcases hf with rfl | rfl | rfl | rfl | rfl
  · exact lp_max 0 false (by simp only [lpNum]; simp only [Bool.false_eq_true, iff_false]; omega)
  · exact lp_rem 0 1 a rfl h3
  · exact lp_max 1 false (by simp only [lpNum]; simp only [Bool.false_eq_true, iff_false]; omega)
  · exact lp_same 0
  · exact lp_bin (by simp only [Ev.intRun, Ev.conc, lpNum]; simp; omega)
theorem lp31_reck (a b : Nat) (ha : a < 18446744073709551616) (hb : b < 18446744073709551616) (h1 : a ≤ 4611686018427387903) (h2 : b ≤ 4611686018427387903) (h3 : a % 3 = 1) (h4 : b ≤ a) : @Ev.reck (lpVars a b lp31F (lp31_ok a b ha hb h1 h2 h3 h4)) Try.prog ev_told 1000000 7 [lpV 0, lpV 1] = true := by kernel_rfl
def lp41F : List Ev.Fact := [⟨.gtr, lpV 0, lpU 4611686018427387903, .bool false⟩, ⟨.rem, lpV 0, lpU 3, lpU 1⟩, ⟨.gtr, lpV 1, lpU 4611686018427387903, .bool false⟩, ⟨.eql, lpV 0, lpV 0, .bool true⟩, ⟨.leq, lpV 1, lpV 0, .bool false⟩, ⟨.add, lpV 0, lpU 1, lpV 2⟩, ⟨.gtr, lpV 1, lpV 2, .bool true⟩, ⟨.sub, lpV 1, lpV 0, lpV 3⟩, ⟨.gtr, lpV 3, lpU 1, .bool true⟩]
theorem lp41_ok (a b : Nat) (ha : a < 18446744073709551616) (hb : b < 18446744073709551616) (h1 : a ≤ 4611686018427387903) (h2 : b ≤ 4611686018427387903) (h3 : a % 3 = 1) (h4 : a + 1 < b) : ∀ f ∈ lp41F, f.ok (fun _ => .u64) (lpNum a b) := by
  intro f hf
  simp only [lp41F, List.mem_cons, List.not_mem_nil, or_false] at hf
  rcases hf with rfl | rfl | rfl | rfl | rfl | rfl | rfl | rfl | rfl
  · exact lp_max 0 false (by simp only [lpNum]; simp only [Bool.false_eq_true, iff_false]; omega)
  · exact lp_rem 0 1 a rfl h3
  · exact lp_max 1 false (by simp only [lpNum]; simp only [Bool.false_eq_true, iff_false]; omega)
  · exact lp_same 0
  · exact lp_bin (by simp only [Ev.intRun, Ev.conc, lpNum]; simp; omega)
  · exact lp_con (by simp only [Ev.intRun, Ev.conc, lpV, lpNum]; rw [IntWalk.u64_in] <;> omega)
  · exact lp_bin (by simp only [Ev.intRun, Ev.conc, lpNum]; simp; omega)
  · exact lp_bin (by simp only [Ev.intRun, Ev.conc, lpV, lpNum]; rw [IntWalk.u64_in] <;> omega)
  · exact lp_con (by simp only [Ev.intRun, Ev.conc, lpNum]; simp; omega)
theorem lp41_reck (a b : Nat) (ha : a < 18446744073709551616) (hb : b < 18446744073709551616) (h1 : a ≤ 4611686018427387903) (h2 : b ≤ 4611686018427387903) (h3 : a % 3 = 1) (h4 : a + 1 < b) : @Ev.reck (lpVars a b lp41F (lp41_ok a b ha hb h1 h2 h3 h4)) Try.prog ev_told 1000000 7 [lpV 0, lpV 1] = true := by kernel_rfl
def lp51F : List Ev.Fact := [⟨.gtr, lpV 0, lpU 4611686018427387903, .bool false⟩, ⟨.rem, lpV 0, lpU 3, lpU 1⟩, ⟨.rem, lpV 1, lpU 3, lpU 2⟩, ⟨.gtr, lpV 1, lpU 4611686018427387903, .bool false⟩, ⟨.eql, lpV 0, lpV 0, .bool true⟩, ⟨.eql, lpV 1, lpV 1, .bool true⟩, ⟨.leq, lpV 1, lpV 0, .bool false⟩, ⟨.add, lpV 0, lpU 1, lpV 1⟩, ⟨.gtr, lpV 1, lpV 1, .bool false⟩, ⟨.sub, lpV 1, lpV 0, lpU 1⟩]
theorem lp51_ok (a b : Nat) (ha : a < 18446744073709551616) (hb : b < 18446744073709551616) (h1 : a ≤ 4611686018427387903) (h2 : b ≤ 4611686018427387903) (h3 : a % 3 = 1) (h4 : b = a + 1) : ∀ f ∈ lp51F, f.ok (fun _ => .u64) (lpNum a b) := by
  intro f hf
  simp only [lp51F, List.mem_cons, List.not_mem_nil, or_false] at hf
  rcases hf with rfl | rfl | rfl | rfl | rfl | rfl | rfl | rfl | rfl | rfl
  · exact lp_max 0 false (by simp only [lpNum]; simp only [Bool.false_eq_true, iff_false]; omega)
  · exact lp_rem 0 1 a rfl h3
  · exact lp_rem 1 2 b rfl (by omega)
  · exact lp_max 1 false (by simp only [lpNum]; simp only [Bool.false_eq_true, iff_false]; omega)
  · exact lp_same 0
  · exact lp_same 1
  · exact lp_bin (by simp only [Ev.intRun, Ev.conc, lpNum]; simp; omega)
  · exact lp_con (by simp only [Ev.intRun, Ev.conc, lpV, lpNum]; rw [IntWalk.u64_in] <;> first | omega | (subst h4; simp))
  · exact lp_bin (by simp [Ev.intRun, Ev.conc])
  · exact lp_bin (by simp only [Ev.intRun, Ev.conc, lpU, lpNum]; rw [IntWalk.u64_in] <;> first | omega | (subst h4; congr 2; omega))
theorem lp51_reck (a b : Nat) (ha : a < 18446744073709551616) (hb : b < 18446744073709551616) (h1 : a ≤ 4611686018427387903) (h2 : b ≤ 4611686018427387903) (h3 : a % 3 = 1) (h4 : b = a + 1) : @Ev.reck (lpVars a b lp51F (lp51_ok a b ha hb h1 h2 h3 h4)) Try.prog ev_told 1000000 7 [lpV 0, lpV 1] = true := by kernel_rfl
def lp22F : List Ev.Fact := [⟨.gtr, lpV 0, lpU 4611686018427387903, .bool false⟩, ⟨.rem, lpV 0, lpU 3, lpU 2⟩, ⟨.gtr, lpV 1, lpU 4611686018427387903, .bool true⟩, ⟨.eql, lpV 0, lpV 0, .bool true⟩]
theorem lp22_ok (a b : Nat) (ha : a < 18446744073709551616) (hb : b < 18446744073709551616) (h1 : a ≤ 4611686018427387903) (h2 : 4611686018427387903 < b) (h3 : a % 3 = 2) : ∀ f ∈ lp22F, f.ok (fun _ => .u64) (lpNum a b) := by
  intro f hf
  simp only [lp22F, List.mem_cons, List.not_mem_nil, or_false] at hf
  rcases hf with rfl | rfl | rfl | rfl
  · exact lp_max 0 false (by simp only [lpNum]; simp only [Bool.false_eq_true, iff_false]; omega)
  · exact lp_rem 0 2 a rfl h3
  · exact lp_max 1 true (by simp only [lpNum]; simp only [iff_true]; omega)
  · exact lp_same 0
theorem lp22_reck (a b : Nat) (ha : a < 18446744073709551616) (hb : b < 18446744073709551616) (h1 : a ≤ 4611686018427387903) (h2 : 4611686018427387903 < b) (h3 : a % 3 = 2) : @Ev.reck (lpVars a b lp22F (lp22_ok a b ha hb h1 h2 h3)) Try.prog ev_told 1000000 7 [lpV 0, lpV 1] = true := by kernel_rfl
def lp32F : List Ev.Fact := [⟨.gtr, lpV 0, lpU 4611686018427387903, .bool false⟩, ⟨.rem, lpV 0, lpU 3, lpU 2⟩, ⟨.gtr, lpV 1, lpU 4611686018427387903, .bool false⟩, ⟨.eql, lpV 0, lpV 0, .bool true⟩, ⟨.leq, lpV 1, lpV 0, .bool true⟩]
theorem lp32_ok (a b : Nat) (ha : a < 18446744073709551616) (hb : b < 18446744073709551616) (h1 : a ≤ 4611686018427387903) (h2 : b ≤ 4611686018427387903) (h3 : a % 3 = 2) (h4 : b ≤ a) : ∀ f ∈ lp32F, f.ok (fun _ => .u64) (lpNum a b) := by
  intro f hf
  simp only [lp32F, List.mem_cons, List.not_mem_nil, or_false] at hf
  rcases hf with rfl | rfl | rfl | rfl | rfl
  · exact lp_max 0 false (by simp only [lpNum]; simp only [Bool.false_eq_true, iff_false]; omega)
  · exact lp_rem 0 2 a rfl h3
  · exact lp_max 1 false (by simp only [lpNum]; simp only [Bool.false_eq_true, iff_false]; omega)
  · exact lp_same 0
  · exact lp_bin (by simp only [Ev.intRun, Ev.conc, lpNum]; simp; omega)
theorem lp32_reck (a b : Nat) (ha : a < 18446744073709551616) (hb : b < 18446744073709551616) (h1 : a ≤ 4611686018427387903) (h2 : b ≤ 4611686018427387903) (h3 : a % 3 = 2) (h4 : b ≤ a) : @Ev.reck (lpVars a b lp32F (lp32_ok a b ha hb h1 h2 h3 h4)) Try.prog ev_told 1000000 7 [lpV 0, lpV 1] = true := by kernel_rfl
def lp42F : List Ev.Fact := [⟨.gtr, lpV 0, lpU 4611686018427387903, .bool false⟩, ⟨.rem, lpV 0, lpU 3, lpU 2⟩, ⟨.gtr, lpV 1, lpU 4611686018427387903, .bool false⟩, ⟨.eql, lpV 0, lpV 0, .bool true⟩, ⟨.leq, lpV 1, lpV 0, .bool false⟩, ⟨.add, lpV 0, lpU 1, lpV 2⟩, ⟨.gtr, lpV 1, lpV 2, .bool true⟩, ⟨.sub, lpV 1, lpV 0, lpV 3⟩, ⟨.gtr, lpV 3, lpU 1, .bool true⟩]
theorem lp42_ok (a b : Nat) (ha : a < 18446744073709551616) (hb : b < 18446744073709551616) (h1 : a ≤ 4611686018427387903) (h2 : b ≤ 4611686018427387903) (h3 : a % 3 = 2) (h4 : a + 1 < b) : ∀ f ∈ lp42F, f.ok (fun _ => .u64) (lpNum a b) := by
  intro f hf
  simp only [lp42F, List.mem_cons, List.not_mem_nil, or_false] at hf
  rcases hf with rfl | rfl | rfl | rfl | rfl | rfl | rfl | rfl | rfl
  · exact lp_max 0 false (by simp only [lpNum]; simp only [Bool.false_eq_true, iff_false]; omega)
  · exact lp_rem 0 2 a rfl h3
  · exact lp_max 1 false (by simp only [lpNum]; simp only [Bool.false_eq_true, iff_false]; omega)
  · exact lp_same 0
  · exact lp_bin (by simp only [Ev.intRun, Ev.conc, lpNum]; simp; omega)
  · exact lp_con (by simp only [Ev.intRun, Ev.conc, lpV, lpNum]; rw [IntWalk.u64_in] <;> omega)
  · exact lp_bin (by simp only [Ev.intRun, Ev.conc, lpNum]; simp; omega)
  · exact lp_bin (by simp only [Ev.intRun, Ev.conc, lpV, lpNum]; rw [IntWalk.u64_in] <;> omega)
  · exact lp_con (by simp only [Ev.intRun, Ev.conc, lpNum]; simp; omega)
theorem lp42_reck (a b : Nat) (ha : a < 18446744073709551616) (hb : b < 18446744073709551616) (h1 : a ≤ 4611686018427387903) (h2 : b ≤ 4611686018427387903) (h3 : a % 3 = 2) (h4 : a + 1 < b) : @Ev.reck (lpVars a b lp42F (lp42_ok a b ha hb h1 h2 h3 h4)) Try.prog ev_told 1000000 7 [lpV 0, lpV 1] = true := by kernel_rfl
def lp52F : List Ev.Fact := [⟨.gtr, lpV 0, lpU 4611686018427387903, .bool false⟩, ⟨.rem, lpV 0, lpU 3, lpU 2⟩, ⟨.rem, lpV 1, lpU 3, lpU 0⟩, ⟨.gtr, lpV 1, lpU 4611686018427387903, .bool false⟩, ⟨.eql, lpV 0, lpV 0, .bool true⟩, ⟨.eql, lpV 1, lpV 1, .bool true⟩, ⟨.leq, lpV 1, lpV 0, .bool false⟩, ⟨.add, lpV 0, lpU 1, lpV 1⟩, ⟨.gtr, lpV 1, lpV 1, .bool false⟩, ⟨.sub, lpV 1, lpV 0, lpU 1⟩]
theorem lp52_ok (a b : Nat) (ha : a < 18446744073709551616) (hb : b < 18446744073709551616) (h1 : a ≤ 4611686018427387903) (h2 : b ≤ 4611686018427387903) (h3 : a % 3 = 2) (h4 : b = a + 1) : ∀ f ∈ lp52F, f.ok (fun _ => .u64) (lpNum a b) := by
  intro f hf
  simp only [lp52F, List.mem_cons, List.not_mem_nil, or_false] at hf
  rcases hf with rfl | rfl | rfl | rfl | rfl | rfl | rfl | rfl | rfl | rfl
  · exact lp_max 0 false (by simp only [lpNum]; simp only [Bool.false_eq_true, iff_false]; omega)
  · exact lp_rem 0 2 a rfl h3
  · exact lp_rem 1 0 b rfl (by omega)
  · exact lp_max 1 false (by simp only [lpNum]; simp only [Bool.false_eq_true, iff_false]; omega)
  · exact lp_same 0
  · exact lp_same 1
  · exact lp_bin (by simp only [Ev.intRun, Ev.conc, lpNum]; simp; omega)
  · exact lp_con (by simp only [Ev.intRun, Ev.conc, lpV, lpNum]; rw [IntWalk.u64_in] <;> first | omega | (subst h4; simp))
  · exact lp_bin (by simp [Ev.intRun, Ev.conc])
  · exact lp_bin (by simp only [Ev.intRun, Ev.conc, lpU, lpNum]; rw [IntWalk.u64_in] <;> first | omega | (subst h4; congr 2; omega))
theorem lp52_reck (a b : Nat) (ha : a < 18446744073709551616) (hb : b < 18446744073709551616) (h1 : a ≤ 4611686018427387903) (h2 : b ≤ 4611686018427387903) (h3 : a % 3 = 2) (h4 : b = a + 1) : @Ev.reck (lpVars a b lp52F (lp52_ok a b ha hb h1 h2 h3 h4)) Try.prog ev_told 1000000 7 [lpV 0, lpV 1] = true := by kernel_rfl
theorem logPuts_walk (a b : Nat) (w : World) (ha : a < 18446744073709551616) (hb : b < 18446744073709551616) :
    Calls Try.prog 7 #[.int .u64 (a : Int), .int .u64 (b : Int)] w fun e w' => e = .returned (.bool true) ∧ Below w.heap.size w w' := by
  rcases Nat.lt_or_ge 4611686018427387903 a with h1 | h1
  · exact lp_calls _ (lp1_reck a b ha hb h1) w
  have h3 : a % 3 = 0 ∨ a % 3 = 1 ∨ a % 3 = 2 := by omega
  rcases Nat.lt_or_ge 4611686018427387903 b with h2 | h2
  · rcases h3 with h3 | h3 | h3
    · exact lp_calls _ (lp20_reck a b ha hb h1 h2 h3) w
    · exact lp_calls _ (lp21_reck a b ha hb h1 h2 h3) w
    · exact lp_calls _ (lp22_reck a b ha hb h1 h2 h3) w
  have h4 : b ≤ a ∨ a + 1 < b ∨ b = a + 1 := by omega
  rcases h4 with h4 | h4 | h4
  · rcases h3 with h3 | h3 | h3
    · exact lp_calls _ (lp30_reck a b ha hb h1 h2 h3 h4) w
    · exact lp_calls _ (lp31_reck a b ha hb h1 h2 h3 h4) w
    · exact lp_calls _ (lp32_reck a b ha hb h1 h2 h3 h4) w
  · rcases h3 with h3 | h3 | h3
    · exact lp_calls _ (lp40_reck a b ha hb h1 h2 h3 h4) w
    · exact lp_calls _ (lp41_reck a b ha hb h1 h2 h3 h4) w
    · exact lp_calls _ (lp42_reck a b ha hb h1 h2 h3 h4) w
  · rcases h3 with h3 | h3 | h3
    · exact lp_calls _ (lp50_reck a b ha hb h1 h2 h3 h4) w
    · exact lp_calls _ (lp51_reck a b ha hb h1 h2 h3 h4) w
    · exact lp_calls _ (lp52_reck a b ha hb h1 h2 h3 h4) w

open Go.ChangeShapes Go.WideShapes in
open Go.ChangeMaps (open_string) in
set_option maxRecDepth 1000000 in
theorem logPuts_law : LawWalk Try.prog 7 Try.f7 := by
  intro H enc W base args ds p hval hA hsz
  rw [Try.params7] at hA hval hsz
  obtain ⟨v0, vs0, d0, ds0, p0, q0, hargs, rfl, rfl, h0, r0⟩ := trodAll_cons hA
  obtain ⟨v1, vs1, d1, ds1, p1, q1, rfl, rfl, rfl, h1, r1⟩ := trodAll_cons r0
  obtain ⟨rfl, rfl, rfl⟩ := trodAll_nil r1
  obtain rfl : args = #[v0, v1] := by cases args; simp_all
  obtain ⟨n0, rfl, rfl, rfl, wn0⟩ := open_int Try.underlying70 (hval 0 _ v0 rfl rfl) h0
  obtain ⟨s0, rfl, hs0⟩ := u64_nat wn0
  obtain ⟨n1, rfl, rfl, rfl, wn1⟩ := open_int Try.underlying70 (hval 1 _ v1 rfl rfl) h1
  obtain ⟨s1, rfl, hs1⟩ := u64_nat wn1
  exact logPuts_walk s0 s1 W hs0 hs1

set_option maxRecDepth 100000 in
theorem logPuts_lifted (os : Os) (started : os.Started) (H : Type) (enc : TypeId × Value → H) :
    ReturnsInHanded {} Try.checked os 7 .any (Rows.logPutsSpec.pre6 enc Try.prog Try.f7 Rows.logPutsRow.domain false) (Rows.logPutsSpec.post enc Try.prog Try.f7 false true false false) :=
  law_lifted (s := Rows.logPutsSpec) started (by kernel_rfl) Try.func7 Try.underlying4 rfl rfl
    (by rw [Try.params7]; simp only [List.mem_cons, List.not_mem_nil, or_false, forall_eq_or_imp, forall_eq]; exact ⟨⟨by kernel_rfl, of_decide_eq_true (by kernel_rfl)⟩, ⟨by kernel_rfl, of_decide_eq_true (by kernel_rfl)⟩⟩)
    (fun H ds hl => by match ds, hl with | [_, _], _ => rfl)
    (ChangeSpec.witness6 (enc := enc) (C := Try.checked) false ⟨#[], #[.int .u64 0, .int .u64 0], []⟩ 8 (by kernel_rfl) (by kernel_rfl) (by kernel_rfl) (by kernel_rfl)) logPuts_law

theorem logPuts_over : Rows.logPutsRow.holds Try.pinned (OpenSpec.ofChange Rows.logPutsSpec) :=
  OpenClaim.holds_of_wide 7 Try.f7 rfl rfl rfl rfl rfl rfl rfl ⟨rfl, rfl, rfl, rfl, rfl⟩ rfl rfl rfl rfl rfl (by kernel_rfl) Try.func7 (by kernel_rfl)
    (of_decide_eq_true (by kernel_rfl)) (by unfold Func.isWrapper; first | (rw [if_pos (by decide +kernel)]; kernel_rfl) | (rw [if_neg (by decide +kernel)]; exact ⟨rfl, rfl⟩))
    (fun os started H enc _ => logPuts_lifted os started H enc)

theorem logPuts_proved : Rows.LogPutsSaid := logPuts_over

end Go.Proofs.Ytbanklocochiaaa
