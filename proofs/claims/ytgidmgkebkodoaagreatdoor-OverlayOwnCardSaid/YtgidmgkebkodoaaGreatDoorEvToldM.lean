/- Calls that are reckoned to be true whatever comes next of a map, where what some calls come to is made one. -/
import Derived.Test.YtgidmgkebkodoaaGreatDoorEvTold
import Derived.Test.YtgidmgkebkodoaaGreatDoorEvM
namespace Go.Proofs.YtgidmgkebkodoaaGreatDoor
open Go.RowKit

theorem evM_book (V : Ev.Vars) (sure : List Nat) (hS : ∀ f ∈ sure, Ev.SureOK Tryz.prog f) : (Ev.book Tryz.prog { ev_told with sure := sure }).ok Tryz.prog :=
  Ev.book_ok Tryz.prog { ev_told with sure := sure } ev_told_ok (fun f hf => hS f (Ev.memN_mem hf)) (fun f l hf => by cases hf) (fun f l hf => by cases hf)
/-- A call that is reckoned to be true. -/
theorem evM_true_by (V : Ev.Vars) (hn : V.ro = fun _ => none) (K : List Nat) (sure : List Nat) (hS : ∀ f ∈ sure, Ev.SureOK Tryz.prog f) {g : FuncId} {args : List Value} (hp : args.all Ev.scal = true) (h : Ev.reckM Tryz.prog { ev_told with sure := sure } [] K 1000000 g args = true) (W : World) :
    Calls Tryz.prog g (args.map Ev.concV).toArray W fun e W' => e = .returned (.bool true) ∧ Below W.heap.size W W' :=
  Ev.callsM_true (T := { ev_told with sure := sure }) (L := []) ev_mixed (evM_book V sure hS) (fun g l h => by cases h) hp h W (fun b x hb => by rw [hn] at hb; cases hb)
/-- A function without arguments that is reckoned to be true. -/
theorem evM_sure {g : FuncId} (K : List Nat) (h : Ev.reckM Tryz.prog { ev_told with sure := [] } [] K 1000000 g [] = true) : Ev.SureOK Tryz.prog g := fun W =>
  evM_true_by Ev.noVars rfl K [] (fun f hf => by cases hf) (args := []) rfl h W
end Go.Proofs.YtgidmgkebkodoaaGreatDoor
