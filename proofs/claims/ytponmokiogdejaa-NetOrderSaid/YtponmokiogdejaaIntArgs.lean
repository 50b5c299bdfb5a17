/- Rows of integers that came in, as lists of integers. -/
import Derived.Test.YtponmokiogdejaaLaw
namespace Go.Proofs.Ytponmokiogdejaa
open Go.RowKit Go.ChangeShapes Go.WideShapes
set_option linter.unusedSimpArgs false
set_option linter.unusedVariables false
section
variable {H : Type} {enc : TypeId × Value → H} {P : Program} {W : World}
theorem open_intsK {k : IntKind} {base : Nat} {t e : TypeId} {v : Value} {d : DataW H} {p : List MemPlace} (ht : P.underlying t = some (.slice e)) (he : P.underlying e = some (.int k)) (hc : P.cellsOf e = 1)
    (hv : Value.okWide P W .any base t v) (h : DataW.Trod enc P W 0 (fun _ => true) true t v d p) :
    ∃ A c, ∃ l : List Int, v = .slice A l.length c ∧ At W W.heap.size 1 A l.length (l.map fun z => .int k z) ∧ l.length ≤ c ∧ (∀ z ∈ l, (Lit.int k z).wf = true) := by
  obtain ⟨a0, len, cap, rfl⟩ := okWide_slice ht hv
  obtain ⟨fuel, hf⟩ := h
  rcases open_ints ht he hc hf with ⟨hcs, hx⟩ | ⟨a, len', cap', zs, hcs, _, hl, hm, hz, hx, hcell, hwz⟩
  · simp [Value.cells] at hcs
    obtain ⟨rfl, rfl, rfl⟩ := hcs
    exact ⟨none, 0, [], rfl, At.nil _ _ _ _, Nat.le_refl _, fun z hz => by simp at hz⟩
  · simp [Value.cells] at hcs
    obtain ⟨rfl, rfl, rfl⟩ := hcs
    have hz' : zs.length = cap := by simpa using hz
    have hlen : (zs.take len).length = len := by rw [List.length_take]; omega
    refine ⟨some a, cap, zs.take len, by rw [hlen], ⟨by rw [List.length_map, hlen]; omega, fun hn => ?_⟩, by rw [hlen]; exact hl, fun z hz => hwz z (List.mem_of_mem_take hz)⟩
    rw [hlen] at hn
    have h0 := hcell 0 (by omega)
    have hsp : a.spot = none := by
      cases hs : a.spot with
      | none => rfl
      | some s =>
        have : a.add 0 = a := by simp [Addr.add]
        rw [this] at h0
        simp only [World.cell?] at h0
        split at h0
        · simp [hs] at h0
        · cases h0
    obtain ⟨b, o, sp⟩ := a
    subst hsp
    have h0' : W.cell? ⟨b, o, none⟩ = some (.int k (zs.getD 0 0)) := by simpa [Addr.add] using h0
    refine ⟨b, o, rfl, World.block_lt_of_cell? W _ h0', fun j u hu => ?_⟩
    rw [List.getElem?_map] at hu
    have hj : j < len := by
      rcases Nat.lt_or_ge j len with h | h
      · exact h
      · rw [List.getElem?_eq_none (by rw [List.length_take]; omega)] at hu; cases hu
    have hj2 : j < zs.length := by omega
    have hjt : (zs.take len)[j]? = some (zs[j]'hj2) := by rw [List.getElem?_take, if_pos hj, List.getElem?_eq_getElem hj2]
    rw [hjt] at hu
    simp only [Option.map_some, Option.some.injEq] at hu
    subst hu
    have hcj := hcell j hj2
    rw [Addr.add_mid] at hcj
    rw [hcj]
    simp [List.getD, hj2]
end
theorem At.intK {k : IntKind} {w : World} {B j : Nat} {A : Option Addr} {l : List Int} (h : At w B 1 A l.length (l.map fun z => .int k z)) (hj : j < l.length) :
    ∃ b o, A = some ⟨b, o, none⟩ ∧ b < B ∧ w.cell? ⟨b, o + j, none⟩ = some (.int k (l.getD j 0)) := by
  obtain ⟨b, o, u, e, hb, hu, hc⟩ := h.at1 hj
  rw [List.getElem?_map, List.getElem?_eq_getElem hj] at hu
  injection hu with hu
  subst hu
  exact ⟨b, o, e, hb, by rw [hc]; simp [List.getD, hj]⟩
end Go.Proofs.Ytponmokiogdejaa
