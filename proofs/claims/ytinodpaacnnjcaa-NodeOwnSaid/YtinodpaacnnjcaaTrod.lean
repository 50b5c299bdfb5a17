/- Rows of structs that came in, part by part; whatever the struct. -/
import Derived.Test.YtinodpaacnnjcaaLaw
import Derived.Test.YtinodpaacnnjcaaRowsO
import Derived.ChangeArms
namespace Go.Proofs.Ytinodpaacnnjcaa
open Go.RowKit Go.ChangeShapes Go.WideShapes
set_option linter.unusedSimpArgs false
set_option linter.unusedVariables false
section
variable {H : Type} {enc : TypeId × Value → H} {W : World} {P : Program}
theorem weightsAll_memT {t : TypeId} : ∀ {l : List (DataW H)} {d : DataW H}, d ∈ l → ∀ n ∈ d.weights P t, n ∈ DataW.weightsAll P t l
  | d0 :: r, d, hd, n, hn => by
    rw [DataW.weightsAll, List.mem_append]
    rcases List.mem_cons.1 hd with rfl | hd
    · exact .inl hn
    · exact .inr (weightsAll_memT hd n hn)
theorem cells_rangeT {w : World} {b o n : Nat} {cs : List Value} (h : w.cells? 0 ⟨b, o, none⟩ n = some cs) : cs.length = n ∧ w.rangeAt b o cs := by
  obtain ⟨_, hl, hc⟩ := World.cells?_some h
  refine ⟨hl, fun j v hv => ?_⟩
  have hj : j < n := by have := (List.getElem?_eq_some_iff.1 hv).1; omega
  have := hc j hj
  rw [Addr.add_mid] at this
  rw [this, hv]
theorem spot_noneT {w : World} {a : Addr} {n : Nat} {cs : List Value} (h : w.cells? 0 a n = some cs) (hn : 0 < n) : a.spot = none ∧ a.block < w.heap.size := by
  obtain ⟨_, hl, hc⟩ := World.cells?_some h
  have h0 := hc 0 hn
  have e : a.add 0 = a := by simp [Addr.add]
  rw [e, List.getElem?_eq_getElem (by omega)] at h0
  refine ⟨?_, World.block_lt_of_cell? w _ h0⟩
  cases hs : a.spot with
  | none => rfl
  | some s =>
    simp only [World.cell?] at h0
    split at h0
    · simp [hs] at h0
    · cases h0
/-- A row, of its parts. -/
theorem rows_ofT {α : Type} {size b o : Nat} {q : List Value → α → Prop} : ∀ n : Nat, (∀ i, i < n → ∃ v ds, W.rangeAt b (o + i * size) ds ∧ ds.length = size ∧ q ds v) → ∃ (l : List α) (xs : List Value), l.length = n ∧ RowsO size q xs l ∧ W.rangeAt b o xs
  | 0, _ => ⟨[], [], rfl, RowsO.nil _ _, fun j u hu => by simp at hu⟩
  | n + 1, h => by
    obtain ⟨l, xs, hl, hr, hc⟩ := rows_ofT n fun i hi => h i (by omega)
    obtain ⟨v, ds, h1, h2, h3⟩ := h n (by omega)
    refine ⟨l ++ [v], xs ++ ds, by simp [hl], hr.snoc h2 h3, fun j u hu => ?_⟩
    have hx := hr.1
    rw [hl] at hx
    rw [List.getElem?_append] at hu
    split at hu
    · exact hc j u hu
    · have := h1 _ u hu
      rwa [show o + n * size + (j - xs.length) = o + j by omega] at this
/-- A row of structs that came in, by what each part is. -/
theorem rows_inT {t e : TypeId} {size fuel : Nat} {c : Value} {x : DataW H × List MemPlace} (ht : P.underlying t = some (.slice e)) (hs : P.cellsOf e = size) (h0 : 0 < size) (hby : 1 ≤ P.bytesOf e)
    {α : Type} {q : List Value → α → Prop}
    (ih : ∀ k, k < fuel → ∀ cs x, DataW.trod enc P W 0 (fun _ => true) true k e cs = some x → (∀ y ∈ x.1.weights P e, y ≤ reachBytes) → ∃ v, q cs v)
    (h : DataW.trod enc P W 0 (fun _ => true) true fuel t [c] = some x) (hw : ∀ y ∈ x.1.weights P t, y ≤ reachBytes) :
    ∃ A cap xs, ∃ l : List α, c = .slice A l.length cap ∧ At W W.heap.size size A l.length xs ∧ RowsO size q xs l ∧ l.length ≤ cap ∧ l.length ≤ 140737488351232 := by
  rcases DataW.trod_slice ht h with ⟨hc, hx⟩ | ⟨a, len, cap, elems, rest, n, rfl, hc, rfl, _, hl, _, hlen, hel, _, _⟩
  · injection hc with hc _
    subst hc
    exact ⟨none, 0, [], [], rfl, At.nil _ _ _ _, RowsO.nil _ _, Nat.le_refl _, by simp⟩
  · injection hc with hc _
    subst hc
    have hreach : len * P.bytesOf e ≤ 140737488351232 := by
      have := hw ((elems.map (·.1)).length * P.bytesOf e + (rest.map (·.1)).length * P.bytesOf e)
        (by rw [DataW.weights.eq_def]; simp only; rw [ht]; simp only [List.mem_cons]; left; rw [← Nat.add_mul])
      rw [List.length_map, hlen] at this
      unfold reachBytes at this
      omega
    have hlen1 : len ≤ len * P.bytesOf e := Nat.le_mul_of_pos_right _ hby
    rcases Nat.eq_zero_or_pos len with hz | hpos
    · subst hz
      exact ⟨some a, cap, [], [], rfl, At.nil _ _ _ _, RowsO.nil _ _, Nat.zero_le _, by simp⟩
    have hab : a.spot = none ∧ a.block < W.heap.size := by
      have h1 := hel 0 hpos
      rw [List.getElem?_eq_getElem (by omega)] at h1
      obtain ⟨ds, hds, _⟩ := Option.bind_eq_some_iff.1 h1
      rw [Nat.zero_mul, hs, show a.add 0 = a by simp [Addr.add]] at hds
      exact spot_noneT hds h0
    obtain ⟨b, o, sp⟩ := a
    obtain ⟨hsp, hblk⟩ := hab
    obtain rfl : sp = none := hsp
    obtain ⟨l, xs, h1, h2, h3⟩ := rows_ofT (W := W) (b := b) (o := o) (size := size) (q := q) len fun i hi => by
      have h1 := hel i hi
      rw [List.getElem?_eq_getElem (by omega)] at h1
      obtain ⟨ds, hds, htr⟩ := Option.bind_eq_some_iff.1 h1
      rw [hs, Addr.add_mid] at hds
      obtain ⟨hdl, hr⟩ := cells_rangeT hds
      obtain ⟨v, hv⟩ := ih n (by omega) ds _ htr (fun y hy => hw y (by
        rw [DataW.weights.eq_def]; simp only; rw [ht]; simp only [List.mem_cons, List.mem_append]
        exact .inr (.inl (weightsAll_memT (List.mem_map_of_mem (List.getElem_mem _)) y hy))))
      exact ⟨v, ds, hr, hdl, hv⟩
    subst h1
    exact ⟨some ⟨b, o, none⟩, cap, xs, l, rfl, ⟨h2.1, fun _ => ⟨b, o, rfl, hblk, h3⟩⟩, h2, hl, by omega⟩
theorem field_ofT {t : TypeId} {fs : Array Field} {fuel : Nat} {cs : List Value} {xs : List (DataW H × List MemPlace)} (hx : ∀ (i : Nat) (f : Field), fs[i]? = some f → DataW.trod enc P W 0 (fun _ => true) true fuel f.type ((cs.drop f.offset).take (P.cellsOf f.type)) = xs[i]?)
    (i : Nat) (ty : TypeId) (off : Nat) (hf : fs[i]?.map (fun f => (f.type, f.offset)) = some (ty, off)) (hl : xs.length = fs.size) (h1 : P.underlying t = some (.struct fs)) (hw : ∀ y ∈ (DataW.agg (xs.map (·.1)) : DataW H).weights P t, y ≤ reachBytes) :
    ∃ x, DataW.trod enc P W 0 (fun _ => true) true fuel ty ((cs.drop off).take (P.cellsOf ty)) = some x ∧ ∀ y ∈ x.1.weights P ty, y ≤ reachBytes := by
  obtain ⟨f, hf1, e⟩ := Option.map_eq_some_iff.1 hf
  clear hf
  have hf := hf1
  injection e with e1 e2
  subst e1 e2
  have hi : i < xs.length := by rw [hl]; exact (Array.getElem?_eq_some_iff.1 hf).1
  refine ⟨xs[i], by rw [hx i f hf, List.getElem?_eq_getElem hi], fun y hy => hw y ?_⟩
  rw [DataW.weights.eq_def]
  simp only
  rw [h1]
  exact DataW.weights_mem_each (j := i) (by rw [List.getElem?_map, Array.getElem?_toList, hf]; rfl) (by rw [List.getElem?_map, List.getElem?_eq_getElem hi]; rfl) y hy
theorem int_inT {k : IntKind} {fuel : Nat} {t : TypeId} {c : Value} {x : DataW H × List MemPlace} (ht : P.underlying t = some (.int k)) (h : DataW.trod enc P W 0 (fun _ => true) true fuel t [c] = some x) : ∃ n, c = .int k n ∧ (Lit.int k n).wf = true := by
  obtain ⟨n, e, rfl, hw⟩ := DataW.trod_int ht h
  injection e with e
  subst e
  exact ⟨n, rfl, hw⟩
/-- A []byte in a field that came in. -/
theorem bytes_inT {fuel : Nat} {t e : TypeId} {c : Value} {x : DataW H × List MemPlace} (ht : P.underlying t = some (.slice e)) (he : P.underlying e = some (.int .u8)) (hs : P.cellsOf e = 1) (hby : 1 ≤ P.bytesOf e)
    (h : DataW.trod enc P W 0 (fun _ => true) true fuel t [c] = some x) (hw : ∀ y ∈ x.1.weights P t, y ≤ reachBytes) :
    ∃ A cap, ∃ l : List UInt8, c = .slice A l.length cap ∧ At W W.heap.size 1 A l.length (l.map u8v) ∧ l.length ≤ cap ∧ l.length ≤ 140737488351232 := by
  obtain ⟨A, cap, xs, l, rfl, ha, hr, h1, h2⟩ := rows_inT (α := UInt8) (q := fun cs v => cs = [u8v v]) ht hs (by decide) hby (fun k hk cs x hx hw => by
    have hcs : ∃ c, cs = [c] := by
      obtain ⟨n, e, _⟩ := DataW.trod_int he hx
      exact ⟨_, e⟩
    obtain ⟨c, rfl⟩ := hcs
    obtain ⟨n, rfl, hn⟩ := int_inT he hx
    obtain ⟨s, rfl, hs⟩ := u8_nat hn
    exact ⟨UInt8.ofNat s, by unfold u8v; rw [UInt8.toNat_ofNat']; congr 3; omega⟩) h hw
  have e : xs = l.map u8v := by
    apply List.ext_getElem?
    intro j
    have hx := hr.1
    rcases Nat.lt_or_ge j l.length with hj | hj
    · have := hr.2 j _ (List.getElem?_eq_getElem hj)
      have h0 : ((xs.drop (j * 1)).take 1)[0]? = some (u8v l[j]) := by rw [this]; rfl
      rw [List.getElem?_take, if_pos (by omega), List.getElem?_drop] at h0
      rw [List.getElem?_map, List.getElem?_eq_getElem hj]
      simpa using h0
    · rw [List.getElem?_eq_none (by omega), List.getElem?_eq_none (by simpa using hj)]
  subst e
  exact ⟨A, cap, l, rfl, ha, h1, h2⟩
end
theorem six_ofT {cs : List Value} (h : cs.length = 6) : ∃ a b c d e f, cs = [a, b, c, d, e, f] := by
  match cs, h with
  | [a, b, c, d, e, f], _ => exact ⟨a, b, c, d, e, f, rfl⟩
end Go.Proofs.Ytinodpaacnnjcaa
