/- What the reckoner is told of this program: which functions are slices.overlaps, which slices.Insert. -/
import Derived.Test.YtgidmgkebkodoaaGreatDoorLaw
import Derived.Test.YtgidmgkebkodoaaGreatDoorEv21
import Derived.Laws.Externs
namespace Go.Proofs.YtgidmgkebkodoaaGreatDoor
open Go.RowKit

theorem ev_mixed : Tryz.prog.follows .mixedOrders = true := by kernel_rfl
theorem ev_ovl0 : Ev.OvlOK Tryz.prog 142 94 := ⟨4, fun args w => run_callFunc_extern Tryz.func142 (by kernel_rfl) (by kernel_rfl) (by kernel_rfl) (e := Extern.SlicesOverlaps.overlaps #[94, 94] #[4]) (by kernel_rfl) args w⟩
theorem ev_ovl1 : Ev.OvlOK Tryz.prog 139 99 := ⟨4, fun args w => run_callFunc_extern Tryz.func139 (by kernel_rfl) (by kernel_rfl) (by kernel_rfl) (e := Extern.SlicesOverlaps.overlaps #[99, 99] #[4]) (by kernel_rfl) args w⟩
def ev_told : Ev.Told := { ovl := [(142, 94), (139, 99)], ins := [85, 82] }
theorem ev_told_ok : ∀ f tS, (f, tS) ∈ ev_told.ovl → Ev.OvlOK Tryz.prog f tS := by
  intro f tS h
  simp only [ev_told, List.mem_cons, Prod.mk.injEq, List.not_mem_nil, or_false] at h
  rcases h with ⟨rfl, rfl⟩ | ⟨rfl, rfl⟩
  · exact ev_ovl0
  · exact ev_ovl1
/-- A call that is reckoned to be true, by what is known of its variables. -/
theorem ev_true_at (V : Ev.Vars) (hn : V.ro = fun _ => none) {g : FuncId} {args : List Value} (hp : args.all Ev.scal = true) (h : Ev.reck Tryz.prog ev_told 1000000 g args = true) (W : World) :
    Calls Tryz.prog g (args.map Ev.concV).toArray W fun e W' => e = .returned (.bool true) ∧ Below W.heap.size W W' :=
  Ev.calls_true ev_mixed ev_told_ok (fun f hf => by cases hf) (fun f l hf => by cases hf) (fun f l hf => by cases hf) hp h W (fun b x hb => by rw [hn] at hb; cases hb)
/-- The same, where some functions are known to be true. -/
theorem ev_true_by (V : Ev.Vars) (hn : V.ro = fun _ => none) (sure : List Nat) (hS : ∀ f ∈ sure, Ev.SureOK Tryz.prog f) {g : FuncId} {args : List Value} (hp : args.all Ev.scal = true) (h : Ev.reck Tryz.prog { ev_told with sure := sure } 1000000 g args = true) (W : World) :
    Calls Tryz.prog g (args.map Ev.concV).toArray W fun e W' => e = .returned (.bool true) ∧ Below W.heap.size W W' :=
  Ev.calls_true (T := { ev_told with sure := sure }) ev_mixed ev_told_ok (fun f hf => hS f (Ev.memN_mem hf)) (fun f l hf => by cases hf) (fun f l hf => by cases hf) hp h W (fun b x hb => by rw [hn] at hb; cases hb)
/-- The same, where some blocks are never written. -/
theorem ev_true_ro (V : Ev.Vars) (sure : List Nat) (hS : ∀ f ∈ sure, Ev.SureOK Tryz.prog f) {g : FuncId} {args : List Value} (hp : args.all Ev.scal = true) (h : Ev.reck Tryz.prog { ev_told with sure := sure } 1000000 g args = true) (W : World)
    (hro : ∀ b x, V.ro b = some x → W.heap[b]? = some x) : Calls Tryz.prog g (args.map Ev.concV).toArray W fun e W' => e = .returned (.bool true) ∧ Below W.heap.size W W' :=
  Ev.calls_true (T := { ev_told with sure := sure }) ev_mixed ev_told_ok (fun f hf => hS f (Ev.memN_mem hf)) (fun f l hf => by cases hf) (fun f l hf => by cases hf) hp h W hro
instance : Ev.Vars := Ev.noVars
theorem no_vars : ∀ {args : List Value}, args.all (Ev.plain 4) = true → args.all Ev.scal = true ∧ args.map Ev.concV = args
  | [], _ => ⟨rfl, rfl⟩
  | v :: vs, h => by
    simp only [List.all_cons, Bool.and_eq_true] at h
    obtain ⟨a, b⟩ := no_vars h.2
    refine ⟨by simp [Ev.scal, h.1, a], ?_⟩
    rw [List.map_cons, b]
    congr 1
    unfold Ev.concV Ev.conc
    split
    · have := h.1; simp [Ev.plain] at this
    · have := h.1; simp [Ev.plain] at this
    · rfl
/-- A call that is reckoned to be true. -/
theorem ev_true {g : FuncId} {args : List Value} (hp : args.all (Ev.plain 4) = true) (h : Ev.reck Tryz.prog ev_told 1000000 g args = true) (W : World) :
    Calls Tryz.prog g args.toArray W fun e W' => e = .returned (.bool true) ∧ Below W.heap.size W W' := by
  have := ev_true_at Ev.noVars rfl (no_vars hp).1 h W
  rwa [(no_vars hp).2] at this
end Go.Proofs.YtgidmgkebkodoaaGreatDoor
