/- A run on closed data, reckoned by the kernel, 21: what a text uses: a call that is reckoned to be true is true. -/
import Derived.Test.YtgidmgkebkodoaaGreatDoorEv20
set_option linter.unusedSimpArgs false
set_option linter.unusedVariables false
set_option linter.unusedSectionVars false
namespace Go.Proofs.YtgidmgkebkodoaaGreatDoor
open Go.RowKit
namespace Ev
variable [Vars]
noncomputable section

def lookN : List (Nat × Nat) → Nat → Option Nat
  | [], _ => none
  | (a, b) :: l, x => bif Nat.beq a x then some b else lookN l x
theorem lookN_mem : ∀ {l : List (Nat × Nat)} {x y : Nat}, lookN l x = some y → (x, y) ∈ l
  | [], _, _, h => by cases h
  | (a, b) :: l, x, y, h => by
    simp only [lookN] at h
    cases hb : Nat.beq a x with
    | true =>
      rw [hb, cond_true, Option.some.injEq] at h
      have := Nat.eq_of_beq_eq_true hb
      subst this; subst h
      exact List.mem_cons_self
    | false => rw [hb, cond_false] at h; exact List.mem_cons_of_mem _ (lookN_mem h)

theorem memN_mem : ∀ {l : List Nat} {x : Nat}, memN x l = true → x ∈ l
  | [], _, h => by cases h
  | y :: l, x, h => by
    simp only [memN, Bool.or_eq_true] at h
    rcases h with h | h
    · exact Nat.eq_of_beq_eq_true h ▸ List.mem_cons_self
    · exact List.mem_cons_of_mem _ (memN_mem h)

/-- What is told of a program beside its text: which functions are slices.overlaps (at which type of slices), which ones slices.Insert, and which ones are known to answer true. -/
structure Told where
  ovl : List (Nat × Nat)
  ins : List Nat
  sure : List Nat := []
  made : List (Nat × List MapEntry) := []
  ans : List (Nat × List (List Value × Value)) := []
def lookG {α : Type} : List (Nat × α) → Nat → Option α
  | [], _ => none
  | (a, b) :: l, x => bif Nat.beq a x then some b else lookG l x
theorem lookG_mem {α : Type} : ∀ {l : List (Nat × α)} {x : Nat} {y : α}, lookG l x = some y → (x, y) ∈ l
  | [], _, _, h => by cases h
  | (a, b) :: l, x, y, h => by
    simp only [lookG] at h
    cases hb : Nat.beq a x with
    | true =>
      rw [hb, cond_true, Option.some.injEq] at h
      have := Nat.eq_of_beq_eq_true hb
      subst this; subst h
      exact List.mem_cons_self
    | false => rw [hb, cond_false] at h; exact List.mem_cons_of_mem _ (lookG_mem h)

/-- Every function that has a body. -/
def book (P : Program) (T : Told) : Book := fun f => match lookN T.ovl f with
  | some tS => some ⟨0, .skip, [], some tS, false, false, none, []⟩
  | none => match P.funcs[f]? with
    | some fn => match fn.body with
      | some b => bif fn.name == "runtime.NumGoroutine" then none else some ⟨fn.ntmps, b, fn.results.toList, none, memN f T.ins, memN f T.sure, lookG T.made f, (lookG T.ans f).getD []⟩
      | none => none
    | none => none
theorem book_ok (P : Program) (T : Told) (hT : ∀ f tS, (f, tS) ∈ T.ovl → OvlOK P f tS) (hS : ∀ f, memN f T.sure = true → SureOK P f) (hM : ∀ f l, (f, l) ∈ T.made → MadeOK P f l) (hA : ∀ f l, (f, l) ∈ T.ans → ∀ args v, (args, v) ∈ l → AnsOK P f args v) : (book P T).ok P := by
  constructor
  · intro f row h hov
    unfold book at h
    split at h
    · cases h; cases hov
    split at h
    case h_2 => cases h
    rename_i fn hfn
    split at h
    case h_2 => cases h
    rename_i b hb
    cases hn : (fn.name == "runtime.NumGoroutine") with
    | true => rw [hn] at h; cases h
    | false =>
      rw [hn, cond_false, Option.some.injEq] at h
      subst h
      exact ⟨fn, hfn, hb, rfl, rfl, hn⟩
  · intro f row tS h hov
    unfold book at h
    split at h
    · rename_i t hl
      cases h
      cases hov
      exact hT f _ (lookN_mem hl)
    split at h
    case h_2 => cases h
    rename_i fn hfn
    split at h
    case h_2 => cases h
    rename_i b hb
    cases hn : (fn.name == "runtime.NumGoroutine") with
    | true => rw [hn] at h; cases h
    | false =>
      rw [hn, cond_false, Option.some.injEq] at h
      subst h
      cases hov
  · intro f row h hsure
    unfold book at h
    split at h
    · cases h; cases hsure
    split at h
    case h_2 => cases h
    rename_i fn hfn
    split at h
    case h_2 => cases h
    rename_i b hb
    cases hn : (fn.name == "runtime.NumGoroutine") with
    | true => rw [hn] at h; cases h
    | false =>
      rw [hn, cond_false, Option.some.injEq] at h
      subst h
      exact hS f hsure
  · intro f row l h hmade
    unfold book at h
    split at h
    · cases h; cases hmade
    split at h
    case h_2 => cases h
    rename_i fn hfn
    split at h
    case h_2 => cases h
    rename_i b hb
    cases hn : (fn.name == "runtime.NumGoroutine") with
    | true => rw [hn] at h; cases h
    | false =>
      rw [hn, cond_false, Option.some.injEq] at h
      subst h
      exact hM f l (lookG_mem hmade)
  · intro f row args v h hans
    unfold book at h
    split at h
    · cases h; cases hans
    split at h
    case h_2 => cases h
    rename_i fn hfn
    split at h
    case h_2 => cases h
    rename_i b hb
    cases hn : (fn.name == "runtime.NumGoroutine") with
    | true => rw [hn] at h; cases h
    | false =>
      rw [hn, cond_false, Option.some.injEq] at h
      subst h
      simp only at hans
      cases hl : lookG T.ans f with
      | none => rw [hl] at hans; cases hans
      | some l => rw [hl] at hans; exact hA f l (lookG_mem hl) args v hans

def isTrue : Out → Bool
  | .ok (.bool true, _, _) => true
  | _ => false

/-- The reckoning of a call. -/
def reck (P : Program) (T : Told) (fuel : Nat) (g : FuncId) (args : List Value) : Bool := isTrue (known? P (book P T) (drawn P (book P T)) fuel g args)

theorem calls_true {P : Program} {T : Told} (hmix : P.follows .mixedOrders = true) (hT : ∀ f tS, (f, tS) ∈ T.ovl → OvlOK P f tS) (hS : ∀ f, memN f T.sure = true → SureOK P f) (hM : ∀ f l, (f, l) ∈ T.made → MadeOK P f l) (hA : ∀ f l, (f, l) ∈ T.ans → ∀ args v, (args, v) ∈ l → AnsOK P f args v) {fuel : Nat} {g : FuncId} {args : List Value} (hp : args.all scal = true) (h : reck P T fuel g args = true) (w : World) (hro : ∀ b x, Vars.ro b = some x → w.heap[b]? = some x) :
    Calls P g (args.map concV).toArray w fun e w' => e = .returned (.bool true) ∧ Below w.heap.size w w' := by
  refine calls_of (book_ok P T hT hS hM hA) (fun ih hih => drawn_ok hmix (book_ok P T hT hS hM hA) hih) (fuel := fuel) hp rfl ?_ w hro
  unfold reck isTrue at h
  split at h
  · rename_i t n hk
    rw [hk]
  · cases h

end
end Ev
end Go.Proofs.YtgidmgkebkodoaaGreatDoor
