/- A run on closed data, reckoned by the kernel, 21: what a text uses: a call that is reckoned to be true is true. -/
import Derived.Test.YtinodpaacnnjcaaEv20
set_option linter.unusedSimpArgs false
set_option linter.unusedVariables false
set_option linter.unusedSectionVars false
namespace Go.Proofs.Ytinodpaacnnjcaa
open Go.RowKit
namespace Ev
variable [Vars]

def lookN : List (Nat × Nat) → Nat → Option Nat
  | [], _ => none
  | (a, b) :: l, x => bif Nat.beq a x then some b else lookN l x
theorem lookN_mem : ∀ {l : List (Nat × Nat)} {x y : Nat}, lookN l x = some y → (x, y) ∈ l
  | [], _, _, h => by cases h
  | (a, b) :: l, x, y, h => by
    simp only [lookN] at h
    cases hb : Nat.beq a x with
    | true =>
      rw [hb, cond_true, Option.some.injEq] at h
      have := Nat.eq_of_beq_eq_true hb
      subst this; subst h
      exact List.mem_cons_self
    | false => rw [hb, cond_false] at h; exact List.mem_cons_of_mem _ (lookN_mem h)

theorem memN_mem : ∀ {l : List Nat} {x : Nat}, memN x l = true → x ∈ l
  | [], _, h => by cases h
  | y :: l, x, h => by
    simp only [memN, Bool.or_eq_true] at h
    rcases h with h | h
    · exact Nat.eq_of_beq_eq_true h ▸ List.mem_cons_self
    · exact List.mem_cons_of_mem _ (memN_mem h)

/-- What is told of a program beside its text: which functions are slices.overlaps (at which type of slices), which ones slices.Insert, and which ones are known to answer true. -/
structure Told where
  ovl : List (Nat × Nat)
  ins : List Nat
  sure : List Nat := []

/-- Every function that has a body. -/
def book (P : Program) (T : Told) : Book := fun f => match lookN T.ovl f with
  | some tS => some ⟨0, .skip, [], some tS, false, false⟩
  | none => match P.funcs[f]? with
    | some fn => match fn.body with
      | some b => bif fn.name == "runtime.NumGoroutine" then none else some ⟨fn.ntmps, b, fn.results.toList, none, memN f T.ins, memN f T.sure⟩
      | none => none
    | none => none
theorem book_ok (P : Program) (T : Told) (hT : ∀ f tS, (f, tS) ∈ T.ovl → OvlOK P f tS) (hS : ∀ f, memN f T.sure = true → SureOK P f) : (book P T).ok P := by
  constructor
  · intro f row h hov
    unfold book at h
    split at h
    · cases h; cases hov
    split at h
    case h_2 => cases h
    rename_i fn hfn
    split at h
    case h_2 => cases h
    rename_i b hb
    cases hn : (fn.name == "runtime.NumGoroutine") with
    | true => rw [hn] at h; cases h
    | false =>
      rw [hn, cond_false, Option.some.injEq] at h
      subst h
      exact ⟨fn, hfn, hb, rfl, rfl, hn⟩
  · intro f row tS h hov
    unfold book at h
    split at h
    · rename_i t hl
      cases h
      cases hov
      exact hT f _ (lookN_mem hl)
    split at h
    case h_2 => cases h
    rename_i fn hfn
    split at h
    case h_2 => cases h
    rename_i b hb
    cases hn : (fn.name == "runtime.NumGoroutine") with
    | true => rw [hn] at h; cases h
    | false =>
      rw [hn, cond_false, Option.some.injEq] at h
      subst h
      cases hov
  · intro f row h hsure
    unfold book at h
    split at h
    · cases h; cases hsure
    split at h
    case h_2 => cases h
    rename_i fn hfn
    split at h
    case h_2 => cases h
    rename_i b hb
    cases hn : (fn.name == "runtime.NumGoroutine") with
    | true => rw [hn] at h; cases h
    | false =>
      rw [hn, cond_false, Option.some.injEq] at h
      subst h
      exact hS f hsure

def isTrue : Out → Bool
  | .ok (.bool true, _, _) => true
  | _ => false

/-- The reckoning of a call. -/
def reck (P : Program) (T : Told) (fuel : Nat) (g : FuncId) (args : List Value) : Bool := isTrue (known? P (book P T) (drawn P (book P T)) fuel g args)

theorem calls_true {P : Program} {T : Told} (hmix : P.follows .mixedOrders = true) (hT : ∀ f tS, (f, tS) ∈ T.ovl → OvlOK P f tS) (hS : ∀ f, memN f T.sure = true → SureOK P f) {fuel : Nat} {g : FuncId} {args : List Value} (hp : args.all scal = true) (h : reck P T fuel g args = true) (w : World) (hro : ∀ b x, Vars.ro b = some x → w.heap[b]? = some x) :
    Calls P g (args.map concV).toArray w fun e w' => e = .returned (.bool true) ∧ Below w.heap.size w w' := by
  refine calls_of (book_ok P T hT hS) (fun ih hih => drawn_ok hmix (book_ok P T hT hS) hih) (fuel := fuel) hp rfl ?_ w hro
  unfold reck isTrue at h
  split at h
  · rename_i t n hk
    rw [hk]
  · cases h

end Ev
end Go.Proofs.Ytinodpaacnnjcaa
