/- A run on closed data, reckoned by the kernel, 21: what a text uses: a call that is reckoned to be true is true. -/
import Derived.Test.YtbanklocochiaaaEv20
set_option linter.unusedSimpArgs false
set_option linter.unusedVariables false
namespace Go.Proofs.Ytbanklocochiaaa
open Go.RowKit
namespace Ev

/-- Every function that has a body. -/
def book (P : Program) : Book := fun f => match P.funcs[f]? with
  | some fn => match fn.body with
    | some b => bif fn.name == "runtime.NumGoroutine" then none else some ⟨fn.ntmps, b, fn.results.toList⟩
    | none => none
  | none => none
theorem book_ok (P : Program) : (book P).ok P := by
  intro f row h
  unfold book at h
  split at h
  case h_2 => cases h
  rename_i fn hfn
  split at h
  case h_2 => cases h
  rename_i b hb
  cases hn : (fn.name == "runtime.NumGoroutine") with
  | true => rw [hn] at h; cases h
  | false =>
    rw [hn, cond_false, Option.some.injEq] at h
    subst h
    exact ⟨fn, hfn, hb, rfl, rfl, hn⟩

def isTrue : Out → Bool
  | .ok (.bool true, _, _) => true
  | _ => false

/-- The reckoning of a call. -/
def reck (P : Program) (fuel : Nat) (g : FuncId) (args : List Value) : Bool := isTrue (known? P (book P) (drawn P (book P)) fuel g args)

theorem calls_true {P : Program} (hmix : P.follows .mixedOrders = true) {fuel : Nat} {g : FuncId} {args : List Value} (hp : args.all (plain 4) = true) (h : reck P fuel g args = true) (w : World) :
    Calls P g args.toArray w fun e w' => e = .returned (.bool true) ∧ Below w.heap.size w w' := by
  refine calls_of (book_ok P) (fun ih hih => drawn_ok hmix (book_ok P) hih) (fuel := fuel) hp rfl ?_ w
  unfold reck isTrue at h
  split at h
  · rename_i t n hk
    rw [hk]
  · cases h

end Ev
end Go.Proofs.Ytbanklocochiaaa
