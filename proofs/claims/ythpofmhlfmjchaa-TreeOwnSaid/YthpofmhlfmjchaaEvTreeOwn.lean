/- The law, reckoned by the kernel: at any key and number, by what is known of them. -/
import Derived.Test.YthpofmhlfmjchaaEvTold
import Derived.Test.YthpofmhlfmjchaaEvVars
set_option linter.unusedSimpArgs false
set_option linter.unusedVariables false
namespace Go.Proofs.Ythpofmhlfmjchaa
open Go.RowKit

theorem toLess_irrefl : ∀ (l : List UInt8), Op.bytesLess l l = false
  | [] => rfl
  | a :: l => by simp [Op.bytesLess, toLess_irrefl l]
def ownVal (k : ByteArray) (n : Int) : Nat → Value := fun i => match i with
  | 0 => .string k
  | 1 => .int .i64 n
  | 2 => .int .i64 (IntKind.i64.wrap (n + 1))
  | 3 => .int .i64 (IntKind.i64.wrap (n + 2))
  | _ => .int .i64 (IntKind.i64.wrap (n + 3))
theorem own_one (k : ByteArray) (n : Int) : ∀ i, (∃ j m, ownVal k n i = .int j m) ∨ ∃ s, ownVal k n i = .string s
  | 0 => .inr ⟨_, rfl⟩
  | 1 => .inl ⟨_, _, rfl⟩
  | 2 => .inl ⟨_, _, rfl⟩
  | 3 => .inl ⟨_, _, rfl⟩
  | _ + 4 => .inl ⟨_, _, rfl⟩
def ownFacts : List Ev.Fact := [⟨.geq, .complex .f64 0 1, .complex .f64 0 1, .bool true⟩, ⟨.eql, .complex .f64 0 1, .complex .f64 0 1, .bool true⟩, ⟨.add, .complex .f64 1 1, .int .i64 1, .complex .f64 2 1⟩, ⟨.add, .complex .f64 1 1, .int .i64 2, .complex .f64 3 1⟩, ⟨.add, .complex .f64 1 1, .int .i64 3, .complex .f64 4 1⟩, ⟨.eql, .complex .f64 1 1, .complex .f64 1 1, .bool true⟩]
theorem own_facts (k : ByteArray) (n : Int) : ∀ f ∈ ownFacts, f.ok (ownVal k n) := by
  intro f hf
  simp only [ownFacts, List.mem_cons, List.not_mem_nil, or_false] at hf
  rcases hf with rfl | rfl | rfl | rfl | rfl | rfl
  · exact .inr ⟨k, k, rfl, rfl, by simp [Ev.strRun, Ev.conc, toLess_irrefl]⟩
  · exact .inr ⟨k, k, rfl, rfl, by simp [Ev.strRun, Ev.conc]⟩
  · exact .inl ⟨.i64, n, 1, rfl, rfl, rfl⟩
  · exact .inl ⟨.i64, n, 2, rfl, rfl, rfl⟩
  · exact .inl ⟨.i64, n, 3, rfl, rfl, rfl⟩
  · exact .inl ⟨.i64, n, n, rfl, rfl, by simp [Ev.intRun, Ev.conc]⟩
abbrev ownVars (k : ByteArray) (n : Int) : Ev.Vars := Ev.tabVars (ownVal k n) (own_one k n) ownFacts [] (own_facts k n) (fun m hm => by cases hm)
theorem treeOwn_reck (k : ByteArray) (n : Int) : @Ev.reck (ownVars k n) Try.prog ev_told 1000000 3 [.complex .f64 0 1, .complex .f64 1 1] = true := by kernel_rfl
theorem treeOwn_walk (k : ByteArray) (n : Int) (w : World) (_hk : k.size ≤ 140737488351232) (_h1 : -9223372036854775808 ≤ n) (_h2 : n ≤ 9223372036854775807) :
    Calls Try.prog 3 #[.string k, .int .i64 n] w fun e w' => e = .returned (.bool true) ∧ Below w.heap.size w w' :=
  @ev_true_at (ownVars k n) 3 [.complex .f64 0 1, .complex .f64 1 1] rfl (treeOwn_reck k n) w

open Go.ChangeShapes Go.WideShapes in
open Go.ChangeMaps (open_string) in
set_option maxRecDepth 1000000 in
theorem treeOwn_law : LawWalk Try.prog 3 Try.f3 := by
  intro H enc W base args ds p hval hA hsz
  rw [Try.params3] at hA hval hsz
  obtain ⟨v0, vs0, d0, ds0, p0, q0, hargs, rfl, rfl, h0, r0⟩ := trodAll_cons hA
  obtain ⟨v1, vs1, d1, ds1, p1, q1, rfl, rfl, rfl, h1, r1⟩ := trodAll_cons r0
  obtain ⟨rfl, rfl, rfl⟩ := trodAll_nil r1
  obtain rfl : args = #[v0, v1] := by cases args; simp_all
  obtain ⟨s0, rfl, rfl, rfl, hs0⟩ := open_string Try.underlying9 (hval 0 _ v0 rfl rfl) h0
  obtain ⟨n1, rfl, rfl, rfl, wn1⟩ := open_int Try.underlying2 (hval 1 _ v1 rfl rfl) h1
  obtain ⟨ha1, hb1⟩ := i64_in wn1
  exact treeOwn_walk s0 n1 W (string_reach hsz (j := 0) rfl rfl) ha1 hb1

set_option maxRecDepth 100000 in
theorem treeOwn_lifted (os : Os) (started : os.Started) (H : Type) (enc : TypeId × Value → H) :
    ReturnsInHanded {} Try.checked os 3 .any (Rows.treeOwnSpec.pre6 enc Try.prog Try.f3 Rows.treeOwnRow.domain false) (Rows.treeOwnSpec.post enc Try.prog Try.f3 false true false false) :=
  law_lifted (s := Rows.treeOwnSpec) started (by kernel_rfl) Try.func3 Try.underlying4 rfl rfl
    (by rw [Try.params3]; simp only [List.mem_cons, List.not_mem_nil, or_false, forall_eq_or_imp, forall_eq]; exact ⟨⟨by kernel_rfl, of_decide_eq_true (by kernel_rfl)⟩, ⟨by kernel_rfl, of_decide_eq_true (by kernel_rfl)⟩⟩)
    (fun H ds hl => by match ds, hl with | [_, _], _ => rfl)
    (ChangeSpec.witness6 (enc := enc) (C := Try.checked) false ⟨#[], #[.string ByteArray.empty, .int .i64 0], []⟩ 8 (by kernel_rfl) (by kernel_rfl) (by kernel_rfl) (by kernel_rfl)) treeOwn_law

theorem treeOwn_over : Rows.treeOwnRow.holds Try.pinned (OpenSpec.ofChange Rows.treeOwnSpec) :=
  OpenClaim.holds_of_wide 3 Try.f3 rfl rfl rfl rfl rfl rfl rfl ⟨rfl, rfl, rfl, rfl, rfl⟩ rfl rfl rfl rfl rfl (by kernel_rfl) Try.func3 (by kernel_rfl)
    (of_decide_eq_true (by kernel_rfl)) (by unfold Func.isWrapper; first | (rw [if_pos (by decide +kernel)]; kernel_rfl) | (rw [if_neg (by decide +kernel)]; exact ⟨rfl, rfl⟩))
    (fun os started H enc _ => treeOwn_lifted os started H enc)

theorem treeOwn_proved : Rows.TreeOwnSaid := treeOwn_over

end Go.Proofs.Ythpofmhlfmjchaa
