/- Calls that are reckoned to be true whatever comes next of a map. -/
import Derived.Test.YtgidmgkebkodoaaGreatDoorEvTold
import Derived.Test.YtgidmgkebkodoaaGreatDoorEvL
namespace Go.Proofs.YtgidmgkebkodoaaGreatDoor
open Go.RowKit

theorem evL_true_by (V : Ev.Vars) (hn : V.ro = fun _ => none) (sure : List Nat) (hS : ∀ f ∈ sure, Ev.SureOK Tryz.prog f) {g : FuncId} {args : List Value} (hp : args.all Ev.scal = true) (h : Ev.reckL Tryz.prog { ev_told with sure := sure } 1000000 g args = true) (W : World) :
    Calls Tryz.prog g (args.map Ev.concV).toArray W fun e W' => e = .returned (.bool true) ∧ Below W.heap.size W W' :=
  Ev.callsL_true (T := { ev_told with sure := sure }) ev_mixed ev_told_ok (fun f hf => hS f (Ev.memN_mem hf)) (fun f l hf => by cases hf) (fun f l hf => by cases hf) hp h W (fun b x hb => by rw [hn] at hb; cases hb)
/-- A call that is reckoned to be true. -/
theorem evL_true {g : FuncId} {args : List Value} (hp : args.all (Ev.plain 4) = true) (h : Ev.reckL Tryz.prog ev_told 1000000 g args = true) (W : World) :
    Calls Tryz.prog g args.toArray W fun e W' => e = .returned (.bool true) ∧ Below W.heap.size W W' := by
  have := Ev.callsL_true ev_mixed ev_told_ok (fun f hf => by cases hf) (fun f l hf => by cases hf) (fun f l hf => by cases hf) (fuel := 1000000) (g := g) (no_vars hp).1 h W (fun b x hb => by cases hb)
  rwa [(no_vars hp).2] at this
/-- A function without arguments that is reckoned to be true. -/
theorem evL_sure {g : FuncId} (h : Ev.reckL Tryz.prog ev_told 1000000 g [] = true) : Ev.SureOK Tryz.prog g := fun W => evL_true (args := []) rfl h W
end Go.Proofs.YtgidmgkebkodoaaGreatDoor
