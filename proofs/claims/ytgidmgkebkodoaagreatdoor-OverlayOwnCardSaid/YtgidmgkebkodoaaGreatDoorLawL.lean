/- The step from a walk to a law's card, where the row lists variables of the library's. -/
import Derived.Test.YtgidmgkebkodoaaGreatDoorLaw
import Derived.Lib.LaidIn
import Derived.Lib.LaidU8T
import Derived.Deep.DeepHandedRow
import Derived.Deep.DeepWitnessRowRef
import Derived.SevenTiedAt
import Derived.PinnedBridge
namespace Go.Proofs.YtgidmgkebkodoaaGreatDoor
open Go.ChangeShapes Go.WideShapes Go.ChangeAt Go.RowKit

/-- What a walk over a law must give, in a world that T says something of. -/
def LawWalkL (P : Program) (f : FuncId) (fn : Func) (T : World → Prop) : Prop :=
  ∀ (H : Type) (enc : TypeId × Value → H) (W : World) (base : Nat) (args : Array Value) (ds : List (DataW H)) (p : List MemPlace),
    (∀ (j : Nat) t v, fn.params[j]? = some t → args[j]? = some v → Value.okWide P W .any base t v) →
    DataW.TrodAll enc P W 0 (fun _ => true) true fn.params.toList args.toList ds p →
    (DataW.weightsEach P fn.params.toList ds).all (· ≤ reachBytes) = true → T W →
    Calls P f args W fun e W' => e = .returned (.bool true) ∧ Below W.heap.size W W'
/-- The same where the arguments are small. -/
def LawWalkLUpto (P : Program) (f : FuncId) (fn : Func) (T : World → Prop) : Prop :=
  ∀ (H : Type) (enc : TypeId × Value → H) (W : World) (base : Nat) (args : Array Value) (ds : List (DataW H)) (p : List MemPlace),
    (∀ (j : Nat) t v, fn.params[j]? = some t → args[j]? = some v → Value.okWide P W .any base t v) →
    DataW.TrodAll enc P W 0 (fun _ => true) true fn.params.toList args.toList ds p →
    (DataW.weightsEach P fn.params.toList ds).all (· ≤ reachBytes) = true → Rows.uptoBulkAll ds ≤ 1048576 → T W →
    Calls P f args W fun e W' => e = .returned (.bool true) ∧ Below W.heap.size W W'

set_option maxRecDepth 1000000 in
theorem law_lifted_laid {s : ChangeSpec} {f : FuncId} {fn : Func} {os : Os} {H : Type} {enc : TypeId × Value → H} {F : Stop.Interp} {laid : List (String × DataW Unit)} {T : World → Prop} (started : os.Started) (hni : Tryz.prog.inits.idxOf? f = none) (hfn : Tryz.prog.funcs[f]? = some fn)
    (hb : Tryz.prog.underlying 4 = some .bool) (hres : fn.resultTypes = #[4]) (hvars : s.vars = [])
    (hr : ∀ t ∈ fn.params.toList, Tryz.prog.readableRec t = true ∧ t < Tryz.prog.types.size) (hs : IsLaw s fn.params.size)
    (hT : ∀ W, laidMetH Tryz.prog laid W → T W)
    (witness : ∃ (w : World) (tape : Tape) (i : Input), w.os = os ∧ (w.forCall tape i).Shaped Tryz.prog ∧ i.vars = [] ∧ Input.okWide Tryz.prog (w.forCall tape i) .any w.heap.size f i ∧
      (OpenSpec.ofChange s).preRow enc Tryz.prog fn [] false laid (w.forCall tape i).memory i.args ∧ ({} : Assume).holds Tryz.prog (lone (Frame.enter Tryz.prog f i.args .normal) [] (w.forCall tape i)))
    (walk : LawWalkL Tryz.prog f fn T) :
    ReturnsInHanded {} Tryz.checked os f .any ((OpenSpec.ofChange s).preRow enc Tryz.prog fn [] false laid) (((OpenSpec.ofChange s).at F).post enc Tryz.prog fn false true false false) := by
  refine returnsInHanded_of_row (C := Tryz.checked) (s := OpenSpec.ofChange s) law_own started hni hfn witness ?_
  intro W base args ds gs before hval hW _ _ hsz hL _ _
  have hW' : DataW.Whole enc Tryz.prog fn.params.toList s.vars false W args.toList ds gs before := hW
  obtain ⟨p, q, hA, hV, rfl, hfz, hnd⟩ := hW
  have hV' : DataW.TrodVars enc Tryz.prog W (fun _ => true) s.vars gs q := hV
  rw [hvars] at hV'
  obtain ⟨rfl, rfl⟩ := trodVars_none hV'
  have hsz' : (DataW.weightsEach Tryz.prog fn.params.toList ds).all (· ≤ reachBytes) = true := by
    have e : DataSpec.varTypes Tryz.checked.prog (OpenSpec.ofChange s).bare.plain = [] := by
      have e0 : (OpenSpec.ofChange s).bare.plain.vars = [] := hvars
      simp [DataSpec.varTypes, e0]
    rw [e, List.append_nil, List.append_nil] at hsz
    exact hsz
  refine (walk H enc W base args ds p hval hA hsz' (hT W hL)).mono fun e W' ⟨he, bel⟩ => ⟨_, he, ?_⟩
  exact law_post law_laid hb hres hvars hr hW' (by rw [List.append_nil]; exact hs H ds (by rw [trodAll_length hA]; simp)) bel

set_option maxRecDepth 1000000 in
theorem law_lifted_laid_upto {s : ChangeSpec} {f : FuncId} {fn : Func} {os : Os} {H : Type} {enc : TypeId × Value → H} {F : Stop.Interp} {laid : List (String × DataW Unit)} {T : World → Prop} (started : os.Started) (hni : Tryz.prog.inits.idxOf? f = none) (hfn : Tryz.prog.funcs[f]? = some fn)
    (hb : Tryz.prog.underlying 4 = some .bool) (hres : fn.resultTypes = #[4]) (hvars : s.vars = [])
    (hr : ∀ t ∈ fn.params.toList, Tryz.prog.readableRec t = true ∧ t < Tryz.prog.types.size) (hs : IsLaw s fn.params.size)
    (hT : ∀ W, laidMetH Tryz.prog laid W → T W)
    (witness : ∃ (w : World) (tape : Tape) (i : Input), w.os = os ∧ (w.forCall tape i).Shaped Tryz.prog ∧ i.vars = [] ∧ Input.okWide Tryz.prog (w.forCall tape i) .any w.heap.size f i ∧
      (Rows.OpenSpec.upto s).preRow enc Tryz.prog fn [] false laid (w.forCall tape i).memory i.args ∧ ({} : Assume).holds Tryz.prog (lone (Frame.enter Tryz.prog f i.args .normal) [] (w.forCall tape i)))
    (walk : LawWalkLUpto Tryz.prog f fn T) :
    ReturnsInHanded {} Tryz.checked os f .any ((Rows.OpenSpec.upto s).preRow enc Tryz.prog fn [] false laid) (((Rows.OpenSpec.upto s).at F).post enc Tryz.prog fn false true false false) := by
  refine returnsInHanded_of_row (C := Tryz.checked) (s := Rows.OpenSpec.upto s) law_own started hni hfn witness ?_
  intro W base args ds gs before hval hW _ hk hsz hL _ _
  have hW' : DataW.Whole enc Tryz.prog fn.params.toList s.vars false W args.toList ds gs before := hW
  obtain ⟨p, q, hA, hV, rfl, hfz, hnd⟩ := hW
  have hV' : DataW.TrodVars enc Tryz.prog W (fun _ => true) s.vars gs q := hV
  rw [hvars] at hV'
  obtain ⟨rfl, rfl⟩ := trodVars_none hV'
  have hsz' : (DataW.weightsEach Tryz.prog fn.params.toList ds).all (· ≤ reachBytes) = true := by
    have e : DataSpec.varTypes Tryz.checked.prog (Rows.OpenSpec.upto s).bare.plain = [] := by
      have e0 : (Rows.OpenSpec.upto s).bare.plain.vars = [] := hvars
      simp [DataSpec.varTypes, e0]
    rw [e, List.append_nil, List.append_nil] at hsz
    exact hsz
  have hk' : Rows.uptoBulkAll ds ≤ 1048576 := by
    have := hk _ rfl
    rw [List.append_nil] at this
    exact of_decide_eq_true this
  refine (walk H enc W base args ds p hval hA hsz' hk' (hT W hL)).mono fun e W' ⟨he, bel⟩ => ⟨_, he, ?_⟩
  exact law_post law_laid hb hres hvars hr hW' (by rw [List.append_nil]; exact hs H ds (by rw [trodAll_length hA]; simp)) bel
end Go.Proofs.YtgidmgkebkodoaaGreatDoor
