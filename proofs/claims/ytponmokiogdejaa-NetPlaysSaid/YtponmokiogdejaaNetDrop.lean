import Derived.Test.YtponmokiogdejaaNetSpoil
import Derived.Test.YtponmokiogdejaaNetTold
import Derived.Lib.SliceRun
namespace Go.Proofs.Ytponmokiogdejaa
open Go.RowKit
set_option linter.unusedSimpArgs false
set_option linter.unusedVariables false

/-- What cells that are stored one behind the other leave of a block. -/
theorem heap_setCells (b : Nat) (e : TypeId) : ∀ (vs : List Value) (o : Nat) (w : World) (cur : Array Value), w.heap[b]? = some (.cells cur e (0, 0)) →
    ∃ cur' : Array Value, (w.setCells b o vs).heap[b]? = some (.cells cur' e (0, 0)) ∧ cur'.size = cur.size ∧ ∀ i, i < cur.size → cur'[i]? = if o ≤ i ∧ i < o + vs.length then vs[i - o]? else cur[i]?
  | [], o, w, cur, h => ⟨cur, h, rfl, fun i hi => by rw [if_neg (by rintro ⟨h1, h2⟩; simp at h2; omega)]⟩
  | v :: r, o, w, cur, h => by
    obtain ⟨cur', h1, h2, h3⟩ := heap_setCells b e r (o + 1) (w.setCell ⟨b, o, none⟩ v) _ (heap_setCell_same w b o cur e v h)
    refine ⟨cur', h1, by simpa using h2, fun i hi => ?_⟩
    rw [h3 i (by simpa using hi), Array.getElem?_setIfInBounds]
    by_cases h0 : o = i
    · subst h0
      have e1 : ¬ (o + 1 ≤ o ∧ o < o + 1 + r.length) := by omega
      have e2 : o ≤ o ∧ o < o + (v :: r).length := ⟨Nat.le_refl _, by simp⟩
      simp only [e1, e2, if_true, if_false, Nat.sub_self]
      simp [hi]
    · rw [if_neg h0]
      by_cases hc : o + 1 ≤ i ∧ i < o + 1 + r.length
      · rw [if_pos hc, if_pos ⟨by omega, by simp; omega⟩, show i - o = (i - (o + 1)) + 1 by omega]
        rfl
      · rw [if_neg hc, if_neg (by simp; omega)]
theorem setCells_out (b : Nat) : ∀ (vs : List Value) (o : Nat) (w : World) (k : Nat), k ≠ b → (w.setCells b o vs).heap[k]? = w.heap[k]?
  | [], _, _, _, _ => rfl
  | v :: r, o, w, k, h => by rw [World.setCells, setCells_out b r (o + 1) _ k h]; exact Below.heap_setCell w _ v k h
theorem setCells_same (b : Nat) : ∀ (vs : List Value) (o : Nat) (w : World), (w.setCells b o vs).heap.size = w.heap.size ∧ (w.setCells b o vs).os = w.os ∧ (w.setCells b o vs).tape = w.tape ∧ (w.setCells b o vs).output = w.output
  | [], _, _ => ⟨rfl, rfl, rfl, rfl⟩
  | v :: r, o, w => by
    have h := setCells_same b r (o + 1) (w.setCell ⟨b, o, none⟩ v)
    rw [World.setCells]
    exact ⟨h.1.trans (by simp [World.setCell]), h.2.1, h.2.2.1, h.2.2.2⟩
def noLet : List Value := [.int .u64 0, .slice none 0 0, .bool false]
theorem zero_let (w : World) : (zeroValue 47).run Try.prog w = .ok (.agg #[.int .u64 0, .slice none 0 0, .bool false]) w := by
  go_simp
theorem clear_let (w : World) (ty : TypeId) (b o c : Nat) (hc : ∀ j, j < 3 → (w.cell? ⟨b, o + j, none⟩).isSome = true) (hf : ∀ j, j < 3 → w.frozen? ⟨b, o + j, none⟩ = false) :
    (Builtin.clear_ #[25] ty #[.slice (some ⟨b, o, none⟩) 1 c]).run Try.prog w = .ok (.tuple #[]) (w.setCells b o noLet) := by
  have hst := run_storeCells_cells (P := Try.prog) b o noLet 0 w (by simpa [noLet] using hc) (by simpa [noLet] using hf) (by intro v hv; simp [noLet] at hv; rcases hv with rfl | rfl | rfl <;> rfl)
  simp only [Nat.add_zero] at hst
  have hz : (Builtin.zeroCells (Value.agg #[.int .u64 0, .slice none 0 0, .bool false]).cells 1).toList = noLet := by kernel_rfl
  simp [Builtin.clear_, run_underlying Try.underlying25, zero_let, hz, hst]

/-- What is left of the rows. -/
def lessRows (xs : List Value) (k : Nat) : List Value := xs.take (k * 3) ++ xs.drop ((k + 1) * 3)
theorem lessRows_get (xs : List Value) (k i : Nat) (hk : (k + 1) * 3 ≤ xs.length) : (lessRows xs k)[i]? = if i < k * 3 then xs[i]? else xs[i + 3]? := by
  unfold lessRows
  by_cases h : i < k * 3
  · rw [if_pos h, List.getElem?_append_left (by rw [List.length_take]; omega), List.getElem?_take, if_pos h]
  · rw [if_neg h, List.getElem?_append_right (by rw [List.length_take]; omega), List.getElem?_drop, List.length_take]
    congr 1
    omega
theorem lessRows_length (xs : List Value) (n k : Nat) (hx : xs.length = n * 3) (hk : k < n) : (lessRows xs k).length = (n - 1) * 3 := by
  unfold lessRows
  rw [List.length_append, List.length_take, List.length_drop]
  omega
theorem lessRows_rows {q : List Value → Let → Prop} {xs : List Value} {L : List Let} (h : RowsO 3 q xs L) {k : Nat} (hk : k < L.length) : RowsO 3 q (lessRows xs k) (L.eraseIdx k) := by
  have hl := h.1
  refine ⟨by rw [lessRows_length xs _ k hl hk, List.length_eraseIdx, if_pos hk], fun j x hj => ?_⟩
  rw [List.getElem?_eraseIdx] at hj
  have e : ((lessRows xs k).drop (j * 3)).take 3 = (xs.drop ((if j < k then j else j + 1) * 3)).take 3 := by
    apply List.ext_getElem?
    intro i
    rw [List.getElem?_take, List.getElem?_take]
    split
    · rw [List.getElem?_drop, List.getElem?_drop, lessRows_get _ _ _ (by omega)]
      split <;> split <;> first | rfl | (exfalso; omega) | (congr 1; omega)
    · rfl
  rw [e]
  refine h.2 _ x ?_
  split at hj <;> rename_i hjk
  · rw [if_pos hjk]; exact hj
  · rw [if_neg hjk]; exact hj
/-- The world behind Delete. -/
def dropW (w : World) (b n k : Nat) (xs : List Value) : World := (w.setCells b (k * 3) (xs.drop ((k + 1) * 3))).setCells b ((n - 1) * 3) noLet
theorem dropW_own {w : World} {b n k c : Nat} {xs : List Value} (h : w.ownsRow 0 47 3 (.slice (some ⟨b, 0, none⟩) n c) n xs) (hk : k < n) : (dropW w b n k xs).ownsRow 0 47 3 (.slice (some ⟨b, 0, none⟩) (n - 1) c) (n - 1) (lessRows xs k) := by
  have hx := h.1
  refine ⟨lessRows_length xs n k hx hk, ?_⟩
  rcases h.2 with ⟨h0, _⟩ | ⟨g, cap, cur, hv, hg, hh, hnc, hcm, hcs, ht⟩
  · cases h0
  · injection hv with hv1 hv2 hv3
    injection hv1 with hv1
    injection hv1 with hv1 _ _
    subst hv1 hv3
    obtain ⟨c1, a1, a2, a3⟩ := heap_setCells b _ (xs.drop ((k + 1) * 3)) (k * 3) w cur hh
    obtain ⟨c2, b1, b2, b3⟩ := heap_setCells b _ noLet ((n - 1) * 3) _ c1 a1
    refine .inr ⟨b, c, c2, rfl, Nat.zero_le _, b1, by omega, hcm, by omega, ?_⟩
    apply List.ext_getElem?
    intro i
    rw [List.getElem?_take, lessRows_get _ _ _ (by omega)]
    have hcur : ∀ i, i < n * 3 → xs[i]? = cur[i]? := fun i hi => by rw [← ht, List.getElem?_take, if_pos hi, Array.getElem?_toList]
    have hdl : (xs.drop ((k + 1) * 3)).length = (n - (k + 1)) * 3 := by rw [List.length_drop, hx]; omega
    by_cases hi : i < (n - 1) * 3
    · have hm : n * 3 ≤ c * 3 := Nat.mul_le_mul_right _ hnc
      rw [if_pos hi, Array.getElem?_toList, b3 i (by omega), if_neg (by omega), a3 i (by omega)]
      by_cases hki : i < k * 3
      · rw [if_pos hki, if_neg (by omega), hcur i (by omega)]
      · rw [if_neg hki, if_pos (by omega), List.getElem?_drop]
        congr 1
        omega
    · rw [if_neg hi, if_neg (by omega), List.getElem?_eq_none (by omega)]
theorem dropW_out (w : World) (b n k : Nat) (xs : List Value) (i : Nat) (hi : i ≠ b) : (dropW w b n k xs).heap[i]? = w.heap[i]? := (setCells_out b _ _ _ i hi).trans (setCells_out b _ _ _ i hi)
theorem dropW_same (w : World) (b n k : Nat) (xs : List Value) : (dropW w b n k xs).heap.size = w.heap.size ∧ (dropW w b n k xs).os = w.os ∧ (dropW w b n k xs).tape = w.tape ∧ (dropW w b n k xs).output = w.output := by
  have h1 := setCells_same b (xs.drop ((k + 1) * 3)) (k * 3) w
  have h2 := setCells_same b noLet ((n - 1) * 3) (w.setCells b (k * 3) (xs.drop ((k + 1) * 3)))
  exact ⟨h2.1.trans h1.1, h2.2.1.trans h1.2.1, h2.2.2.1.trans h1.2.2.1, h2.2.2.2.trans h1.2.2.2⟩
end Go.Proofs.Ytponmokiogdejaa
