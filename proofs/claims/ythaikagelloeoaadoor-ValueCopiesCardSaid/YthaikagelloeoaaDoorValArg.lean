import Derived.Test.YthaikagelloeoaaDoorValOpen2
import Derived.Test.YthaikagelloeoaaDoorLaw
namespace Go.Proofs.YthaikagelloeoaaDoor
open Go.RowKit Go.ChangeShapes Go.WideShapes

/-- A value that a law is handed. -/
theorem open_val {H : Type} {enc : TypeId × Value → H} {W : World} {base j : Nat} {v : Value} {d : DataW H} {p : List MemPlace} {ts : List TypeId} {ds : List (DataW H)}
    (hv : Value.okWide Tryd.prog W .any base 26 v) (h : DataW.Trod enc Tryd.prog W 0 (fun _ => true) true 26 v d p)
    (hsz : (DataW.weightsEach Tryd.prog ts ds).all (· ≤ reachBytes) = true) (ht : ts[j]? = some 26) (hd : ds[j]? = some d) :
    ∃ n cs x, v = .agg cs.toArray ∧ VIn W W.heap.size n cs x ∧ ∀ m, Fit m x := by
  obtain ⟨cs, rfl, _⟩ := okWide_struct Tryd.underlying26 hv
  obtain ⟨fuel, hf⟩ := h
  have hw : ∀ y ∈ d.weights Tryd.prog 26, y ≤ reachBytes := fun y hy => of_decide_eq_true (List.all_eq_true.1 hsz y (DataW.weights_mem_each ht hd y hy))
  obtain ⟨n, x, hx⟩ := vfit_of_trod fuel cs.toList (d, p) hf hw
  exact ⟨n, cs.toList, x, by simp, hx.1, hx.2⟩
end Go.Proofs.YthaikagelloeoaaDoor
