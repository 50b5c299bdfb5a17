/- A run on closed data, reckoned by the kernel, 22: variables by a table of what is known. -/
import Derived.Test.YtgidmgkebkodoaaGreatDoorEv21
import Derived.IntWalk
import Derived.Laws.Bits64
set_option linter.unusedSimpArgs false
set_option linter.unusedVariables false
set_option linter.unusedSectionVars false
namespace Go.Proofs.YtgidmgkebkodoaaGreatDoor
open Go.RowKit
namespace Ev

/-- What an operator answers at two integers of a kind. -/
def intRun (op : BinOp) (k : IntKind) (a b : Int) : Option Value :=
  match op with
  | .add => some (.int k (k.wrap (a + b)))
  | .sub => some (.int k (k.wrap (a - b)))
  | .mul => some (.int k (k.wrap (a * b)))
  | .rem => if b = 0 then none else some (.int k (a.tmod b))
  | .eql => some (.bool (a == b))
  | .neq => some (.bool (a != b))
  | .lss => some (.bool (a < b))
  | .leq => some (.bool (a ≤ b))
  | .gtr => some (.bool (a > b))
  | .geq => some (.bool (a ≥ b))
  | _ => none
theorem run_eqGuard_int {P : Program} (op : BinOp) (t : TypeId) (x y : Operand) (k j : IntKind) (a b : Int) (w : World) : (eqGuard op t x y (.int k a) (.int j b)).run P w = .ok () w := by
  unfold eqGuard
  cases op <;> rfl
theorem intRun_ok {P : Program} {op : BinOp} {k : IntKind} {a b : Int} {v : Value} (h : intRun op k a b = some v) (t : TypeId) (w : World) : (binOp op t (.int k a) (.int k b)).run P w = .ok v w := by
  cases op <;> simp only [intRun, Option.some.injEq] at h <;> (try cases h) <;> try simp [binOp, Op.intArith, Op.intCmp, Op.intDiv]
  split at h
  · cases h
  · rename_i hb
    cases h
    simp [binOp, Op.intDiv, hb]

/-- What an operator answers at two texts. -/
def strRun (op : BinOp) (a b : ByteArray) : Option Value :=
  match op with
  | .eql => some (.bool (a.toList == b.toList))
  | .neq => some (.bool (!(a.toList == b.toList)))
  | .lss => some (.bool (Op.bytesLess a.toList b.toList))
  | .leq => some (.bool (Op.bytesLess a.toList b.toList || a.toList == b.toList))
  | .gtr => some (.bool (!(Op.bytesLess a.toList b.toList || a.toList == b.toList)))
  | .geq => some (.bool (!(Op.bytesLess a.toList b.toList)))
  | _ => none
theorem run_eqGuard_str {P : Program} (op : BinOp) (t : TypeId) (x y : Operand) (a b : ByteArray) (w : World) : (eqGuard op t x y (.string a) (.string b)).run P w = .ok () w := by
  unfold eqGuard
  cases op <;> rfl
theorem strRun_ok {P : Program} {op : BinOp} {a b : ByteArray} {v : Value} (h : strRun op a b = some v) (t : TypeId) (w : World) : (binOp op t (.string a) (.string b)).run P w = .ok v w := by
  cases op <;> simp only [strRun, Option.some.injEq] at h <;> (try cases h) <;> simp [binOp, Op.stringOp]

/-- A row of the table: an operator at two values, and its answer. -/
structure Fact where
  op : BinOp
  u : Value
  v : Value
  r : Value
/-- min at these. -/
structure Least where
  us : List Value
  r : Value

section
attribute [local instance] noVars
def lookF : List Fact → BinOp → Value → Value → Option Value
  | [], _, _, _ => none
  | f :: fs, op, u, v => bif decide (f.op = op) && valEq 60 f.u u && valEq 60 f.v v then some f.r else lookF fs op u v
def lookM : List Least → List Value → Option Value
  | [], _ => none
  | m :: ms, us => bif listEq (valEq 60) m.us us then some m.r else lookM ms us
theorem lookF_mem : ∀ {fs : List Fact} {op : BinOp} {u v r : Value}, lookF fs op u v = some r → ⟨op, u, v, r⟩ ∈ fs
  | [], _, _, _, _, h => by cases h
  | f :: fs, op, u, v, r, h => by
    simp only [lookF] at h
    cases hc : (decide (f.op = op) && valEq 60 f.u u && valEq 60 f.v v) with
    | true =>
      rw [hc, cond_true, Option.some.injEq] at h
      simp only [Bool.and_eq_true, decide_eq_true_eq] at hc
      obtain ⟨⟨c1, c2⟩, c3⟩ := hc
      have c2 := valEq_ok _ _ _ c2
      have c3 := valEq_ok _ _ _ c3
      subst c1; subst c2; subst c3; subst h
      exact List.mem_cons_self
    | false =>
      rw [hc, cond_false] at h
      exact List.mem_cons_of_mem _ (lookF_mem h)
theorem valsEq : ∀ {us vs : List Value}, listEq (valEq 60) us vs = true → us = vs
  | [], [], _ => rfl
  | [], _ :: _, h => by simp [listEq] at h
  | _ :: _, [], h => by simp [listEq] at h
  | u :: us, v :: vs, h => by
    simp only [listEq, Bool.and_eq_true] at h
    rw [valEq_ok _ _ _ h.1, valsEq h.2]
theorem lookM_mem : ∀ {ms : List Least} {us : List Value} {r : Value}, lookM ms us = some r → ⟨us, r⟩ ∈ ms
  | [], _, _, h => by cases h
  | m :: ms, us, r, h => by
    simp only [lookM] at h
    cases hc : listEq (valEq 60) m.us us with
    | true =>
      rw [hc, cond_true, Option.some.injEq] at h
      have := valsEq hc
      subst this; subst h
      exact List.mem_cons_self
    | false =>
      rw [hc, cond_false] at h
      exact List.mem_cons_of_mem _ (lookM_mem h)

end

section
variable (val : Nat → Value)
def Fact.ok (f : Fact) : Prop :=
  (∃ k a b, conc val f.u = .int k a ∧ conc val f.v = .int k b ∧ intRun f.op k a b = some (conc val f.r)) ∨
  (∃ a b, conc val f.u = .string a ∧ conc val f.v = .string b ∧ strRun f.op a b = some (conc val f.r))
def leastOf : Int → List Int → Int
  | a, [] => a
  | a, b :: bs => leastOf (if b < a then b else a) bs
def Least.ok (m : Least) : Prop := ∃ k a bs, m.us.map (conc val) = (.int k a) :: bs.map (Value.int k) ∧ conc val m.r = .int k (leastOf a bs)
end

theorem run_least {P : Program} (k : IntKind) (w : World) : ∀ (bs : List Int) (a : Int), ((bs.map (Value.int k)).foldlM Builtin.min2 (.int k a)).run P w = .ok (.int k (leastOf a bs)) w
  | [], a => rfl
  | b :: bs, a => by
    simp only [List.map_cons, List.foldlM_cons, leastOf]
    rw [Sem.run_bind]
    have : (Builtin.min2 (.int k a) (.int k b)).run P w = .ok (.int k (if b < a then b else a)) w := by simp [Builtin.min2]
    rw [this, Result.andThen_ok]
    exact run_least k w bs _

def factsOf (fs : List Fact) (ms : List Least) (_ : Program) (op : Op) (vs : List Value) : Option Value :=
  match op, vs with
  | .binOp b _ _ _ _, [u, v] => lookF fs b u v
  | .call c, us => match c.callee with
    | .builtin .min => lookM ms us
    | _ => none
  | _, _ => none

/-- Variables by tables. -/
@[reducible] def tabVars (val : Nat → Value) (one : ∀ k, (∃ j n, val k = .int j n) ∨ (∃ s, val k = .string s) ∨ (∃ a, val k = .pointer (some a)) ∨ ∃ a n c, val k = .slice (some a) n c) (fs : List Fact) (ms : List Least) (hf : ∀ f ∈ fs, f.ok val) (hm : ∀ m ∈ ms, m.ok val) : Vars where
  on := true
  val := val
  one := one
  ro := fun _ => none
  fact := factsOf fs ms
  ok := by
    intro P o ρ vs v w h _ hv
    unfold factsOf at h
    split at h
    · rename_i b ty x y g us u v1 ho
      have hfact := hf _ (lookF_mem h)
      rw [ho] at hv
      simp only [Op.operands, List.map_cons, List.map_nil, List.cons.injEq, and_true] at hv
      obtain ⟨e1, e2⟩ := hv
      rcases hfact with ⟨k, a, b', h1, h2, h3⟩ | ⟨a, b', h1, h2, h3⟩
      · simp only at h1 h2 h3
        rw [h1] at e1; rw [h2] at e2
        simp [execOp, ho, e1, e2, Sem.run_bind, run_eqGuard_int, intRun_ok h3]
      · simp only at h1 h2 h3
        rw [h1] at e1; rw [h2] at e2
        simp [execOp, ho, e1, e2, Sem.run_bind, run_eqGuard_str, strRun_ok h3]
    · rename_i us c ho
      split at h
      case h_2 => cases h
      rename_i hcal
      obtain ⟨k, a, bs, h1, h2⟩ := hm _ (lookM_mem h)
      rw [ho] at hv
      simp only [Op.operands, Call.operands, hcal, Array.empty_append] at hv
      simp only at h1 h2
      rw [h1] at hv
      have hv' : c.args.toList.map ρ = .int k a :: bs.map (Value.int k) := by simpa using hv
      have hr := run_least (P := P) k w bs a
      simp [execOp, ho, resolve, hcal, invoke, builtin, Sem.run_bind, Builtin.min_, hv', hr, h2]
    · cases h

end Ev
end Go.Proofs.YtgidmgkebkodoaaGreatDoor
