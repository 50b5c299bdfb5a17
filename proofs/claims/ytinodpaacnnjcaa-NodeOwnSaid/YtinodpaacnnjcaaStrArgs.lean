/- A row of texts that came in, as a list of texts. -/
import Derived.Test.YtinodpaacnnjcaaTrod
namespace Go.Proofs.Ytinodpaacnnjcaa
open Go.RowKit Go.ChangeShapes Go.WideShapes
set_option linter.unusedSimpArgs false
set_option linter.unusedVariables false
theorem open_strs {P : Program} {H : Type} {enc : TypeId × Value → H} {W : World} {base j : Nat} {t et : TypeId} {v : Value} {d : DataW H} {p : List MemPlace} {ts : List TypeId} {ds : List (DataW H)}
    (hu : P.underlying t = some (.slice et)) (he : P.underlying et = some .string) (hs : P.cellsOf et = 1) (hby : 1 ≤ P.bytesOf et)
    (hv : Value.okWide P W .any base t v) (h : DataW.Trod enc P W 0 (fun _ => true) true t v d p)
    (hsz : (DataW.weightsEach P ts ds).all (· ≤ reachBytes) = true) (ht : ts[j]? = some t) (hd : ds[j]? = some d) :
    ∃ A cap, ∃ l : List ByteArray, v = .slice A l.length cap ∧ At W W.heap.size 1 A l.length (l.map Value.string) := by
  obtain ⟨a0, len, cap, rfl⟩ := okWide_slice hu hv
  obtain ⟨fuel, hf⟩ := h
  have hw : ∀ y ∈ d.weights P t, y ≤ reachBytes := fun y hy => of_decide_eq_true (List.all_eq_true.1 hsz y (DataW.weights_mem_each ht hd y hy))
  have hf' : DataW.trod enc P W 0 (fun _ => true) true fuel t [.slice a0 len cap] = some (d, p) := hf
  obtain ⟨A, c, xs, l, e, ha, hr, _, _⟩ := rows_inT (α := ByteArray) (q := fun cs v => cs = [.string v]) hu hs (by decide) hby (fun k hk cs x hx hwx => by
    have hcs : ∃ s : ByteArray, cs = [.string s] := by
      obtain ⟨s, e, _⟩ := DataW.trod_string he hx
      exact ⟨s, e⟩
    exact hcs) hf' hw
  injection e with e1 e2 e3
  subst e1 e2 e3
  have e : xs = l.map Value.string := by
    apply List.ext_getElem?
    intro j
    have hx := hr.1
    rcases Nat.lt_or_ge j l.length with hj | hj
    · have := hr.2 j _ (List.getElem?_eq_getElem hj)
      have h0 : ((xs.drop (j * 1)).take 1)[0]? = some (.string l[j]) := by rw [this]; rfl
      rw [List.getElem?_take, if_pos (by omega), List.getElem?_drop] at h0
      rw [List.getElem?_map, List.getElem?_eq_getElem hj]
      simpa using h0
    · rw [List.getElem?_eq_none (by omega), List.getElem?_eq_none (by simpa using hj)]
  subst e
  exact ⟨a0, cap, l, rfl, ha⟩
end Go.Proofs.Ytinodpaacnnjcaa
