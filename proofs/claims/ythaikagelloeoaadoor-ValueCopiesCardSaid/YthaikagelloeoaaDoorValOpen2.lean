/- A value that came in, as a value, and that it fits. -/
import Derived.Test.YthaikagelloeoaaDoorValOpen
import Derived.Test.YthaikagelloeoaaDoorValFit
namespace Go.Proofs.YthaikagelloeoaaDoor
open Go.RowKit Go.ChangeShapes Go.WideShapes

theorem bytes_val88 : Tryd.prog.bytesOf 26 = 88 := by kernel_rfl
theorem bytes_mem104 : Tryd.prog.bytesOf 46 = 104 := by kernel_rfl
section
variable {H : Type} {enc : TypeId × Value → H} {W : World}
/-- A list that came in, each part of which is known. -/
theorem list_in2 {t e : TypeId} {size fuel : Nat} {c : Value} {x : DataW H × List MemPlace} (ht : Tryd.prog.underlying t = some (.slice e)) (hs : Tryd.prog.cellsOf e = size) (h0 : 0 < size) (hby : 1 ≤ Tryd.prog.bytesOf e)
    {α : Type} {q : Nat → List Value → α → Prop} (hm : ∀ {n m : Nat}, n ≤ m → ∀ {cs v}, q n cs v → q m cs v)
    (ih : ∀ k, k < fuel → ∀ cs x, DataW.trod enc Tryd.prog W 0 (fun _ => true) true k e cs = some x → (∀ y ∈ x.1.weights Tryd.prog e, y ≤ reachBytes) → ∃ n v, q n cs v)
    (h : DataW.trod enc Tryd.prog W 0 (fun _ => true) true fuel t [c] = some x) (hw : ∀ y ∈ x.1.weights Tryd.prog t, y ≤ reachBytes) :
    ∃ A cap n, ∃ l : List α, c = .slice A l.length cap ∧ l.length ≤ cap ∧ l.length ≤ 140737488351232 ∧ l.length * Tryd.prog.bytesOf e ≤ 140737488351232 ∧ ∀ (j : Nat) (v : α), l[j]? = some v → ∃ g p ds, A = some ⟨g, p, none⟩ ∧ g < W.heap.size ∧ W.rangeAt g (p + j * size) ds ∧ ds.length = size ∧ q n ds v := by
  rcases DataW.trod_slice ht h with ⟨hc, hx⟩ | ⟨a, len, cap, elems, rest, n, rfl, hc, rfl, _, hl, _, hlen, hel, _, _⟩
  · injection hc with hc _
    subst hc
    exact ⟨none, 0, 0, [], rfl, Nat.le_refl _, by simp, by simp, fun j v hv => by simp at hv⟩
  · injection hc with hc _
    subst hc
    have hreach : len * Tryd.prog.bytesOf e ≤ 140737488351232 := by
      have := hw ((elems.map (·.1)).length * Tryd.prog.bytesOf e + (rest.map (·.1)).length * Tryd.prog.bytesOf e)
        (by rw [DataW.weights.eq_def]; simp only; rw [ht]; simp only [List.mem_cons]; left; rw [← Nat.add_mul])
      rw [List.length_map, hlen] at this
      unfold reachBytes at this
      omega
    have hlen1 : len ≤ len * Tryd.prog.bytesOf e := Nat.le_mul_of_pos_right _ hby
    have each : ∀ i, i < len → ∃ m v, ∃ g p ds, (some a : Option Addr) = some ⟨g, p, none⟩ ∧ g < W.heap.size ∧ W.rangeAt g (p + i * size) ds ∧ ds.length = size ∧ q m ds v := by
      intro i hi
      have h1 := hel i hi
      rw [List.getElem?_eq_getElem (by omega)] at h1
      obtain ⟨ds, hds, htr⟩ := Option.bind_eq_some_iff.1 h1
      rw [hs] at hds
      have hsp : a.spot = none := by
        have h1 := hel 0 (by omega)
        rw [List.getElem?_eq_getElem (by omega)] at h1
        obtain ⟨ds, hds, _⟩ := Option.bind_eq_some_iff.1 h1
        rw [Nat.zero_mul, hs, show a.add 0 = a by simp [Addr.add]] at hds
        exact (spot_none hds h0).1
      obtain ⟨_, hblk⟩ := spot_none hds h0
      obtain ⟨b, o, sp⟩ := a
      obtain rfl : sp = none := hsp
      rw [Addr.add_mid] at hds hblk
      obtain ⟨hdl, hr⟩ := cells_range hds
      obtain ⟨m, v, hv⟩ := ih n (by omega) ds _ htr (fun y hy => hw y (by
        rw [DataW.weights.eq_def]; simp only; rw [ht]; simp only [List.mem_cons, List.mem_append]
        exact .inr (.inl (weightsAll_mem (List.mem_map_of_mem (List.getElem_mem _)) y hy))))
      exact ⟨m, v, b, o, ds, rfl, hblk, hr, hdl, hv⟩
    have all : ∃ m, ∀ i, i < len → ∃ v, ∃ g p ds, (some a : Option Addr) = some ⟨g, p, none⟩ ∧ g < W.heap.size ∧ W.rangeAt g (p + i * size) ds ∧ ds.length = size ∧ q m ds v := by
      have : ∀ k, (∀ i, i < k → ∃ m v, ∃ g p ds, (some a : Option Addr) = some ⟨g, p, none⟩ ∧ g < W.heap.size ∧ W.rangeAt g (p + i * size) ds ∧ ds.length = size ∧ q m ds v) →
          ∃ m, ∀ i, i < k → ∃ v, ∃ g p ds, (some a : Option Addr) = some ⟨g, p, none⟩ ∧ g < W.heap.size ∧ W.rangeAt g (p + i * size) ds ∧ ds.length = size ∧ q m ds v := by
        intro k
        induction k with
        | zero => intro _; exact ⟨0, fun i h => absurd h (by omega)⟩
        | succ k ihk =>
          intro h
          obtain ⟨m, hm1⟩ := ihk fun i hi => h i (by omega)
          obtain ⟨m', v, g, p, ds, e1, e2, e3, e4, e5⟩ := h k (by omega)
          refine ⟨max m m', fun i hi => ?_⟩
          rcases Nat.lt_or_ge i k with hk | hk
          · obtain ⟨v, g, p, ds, e1, e2, e3, e4, e5⟩ := hm1 i hk
            exact ⟨v, g, p, ds, e1, e2, e3, e4, hm (by omega) e5⟩
          · obtain rfl : i = k := by omega
            exact ⟨v, g, p, ds, e1, e2, e3, e4, hm (by omega) e5⟩
      exact this len each
    obtain ⟨m, hall⟩ := all
    obtain ⟨l, hll, hp⟩ := list_of (p := fun i v => ∃ g p ds, (some a : Option Addr) = some ⟨g, p, none⟩ ∧ g < W.heap.size ∧ W.rangeAt g (p + i * size) ds ∧ ds.length = size ∧ q m ds v) len hall
    exact ⟨some a, cap, m, l, by rw [hll], by omega, by omega, by rw [hll]; exact hreach, hp⟩

/-- A value, and all within fits. -/
def VFit (w : World) (B n : Nat) (cs : List Value) (v : Val) : Prop := VIn w B n cs v ∧ ∀ m, Fit m v
theorem VFit.mono {w : World} {B n m : Nat} (h : n ≤ m) {cs : List Value} {v : Val} (hv : VFit w B n cs v) : VFit w B m cs v := ⟨hv.1.mono h, hv.2⟩
/-- A member that came in: its key, and its value. -/
def MIn2 (w : World) (B n : Nat) (cs : List Value) (m : List UInt8 × Val) : Prop := ∃ ds, cs = .string (bs m.1) :: ds ∧ m.1.length ≤ 140737488351232 ∧ VFit w B n ds m.2

theorem vfit_of_trod : ∀ (fuel : Nat) (cs : List Value) (x : DataW H × List MemPlace), DataW.trod enc Tryd.prog W 0 (fun _ => true) true fuel 26 cs = some x → (∀ y ∈ x.1.weights Tryd.prog 26, y ≤ reachBytes) → ∃ n v, VFit W W.heap.size n cs v := by
  intro fuel
  induction fuel using Nat.strongRecOn with
  | ind fuel ih =>
    intro cs x h hw
    obtain ⟨xs, n, rfl, rfl, hl, hxl, hx⟩ := DataW.trod_struct Tryd.underlying26 h
    rw [cells_val] at hl
    obtain ⟨a0, a1, a2, a3, a4, a5, rfl⟩ := six hl
    have F := fun i ty off hf => field_of hx i ty off hf hxl Tryd.underlying26 hw
    obtain ⟨x0, h0, w0⟩ := F 0 22 0 rfl
    obtain ⟨x1, h1, w1⟩ := F 1 4 1 rfl
    obtain ⟨x2, h2, w2⟩ := F 2 2 2 rfl
    obtain ⟨x3, h3, w3⟩ := F 3 9 3 rfl
    obtain ⟨x4, h4, w4⟩ := F 4 23 4 rfl
    obtain ⟨x5, h5, w5⟩ := F 5 24 5 rfl
    rw [cells_kind] at h0
    rw [cells_bool] at h1
    rw [cells_i64] at h2
    rw [cells_str] at h3
    rw [cells_vals] at h4
    rw [cells_mems] at h5
    obtain ⟨k, rfl, hk⟩ := int_in Tryd.underlying22 h0
    obtain ⟨b, e1, _⟩ := DataW.trod_bool Tryd.underlying4 h1
    obtain ⟨i, rfl, hi⟩ := int_in Tryd.underlying2 h2
    obtain ⟨s, rfl, hs⟩ := string_in Tryd.underlying9 h3 w3
    obtain ⟨A1, c1, n1, l, rfl, hc1, hr1, hb1, hl1⟩ := list_in2 (e := 26) (size := 6) Tryd.underlying23 cells_val (by decide) bytes_val (q := VFit W W.heap.size) (fun h _ _ hv => hv.mono h) (fun k hk => ih k (by omega)) h4 w4
    have im : ∀ k, k < n → ∀ cs x, DataW.trod enc Tryd.prog W 0 (fun _ => true) true k 46 cs = some x → (∀ y ∈ x.1.weights Tryd.prog 46, y ≤ reachBytes) → ∃ m v, MIn2 W W.heap.size m cs v := by
      intro k hk cs x h hw
      obtain ⟨xs, n', rfl, rfl, hl, hxl, hx⟩ := DataW.trod_struct Tryd.underlying46 h
      rw [cells_mem] at hl
      obtain ⟨a, r, rfl, hr⟩ := one_more hl
      have F := fun i ty off hf => field_of hx i ty off hf hxl Tryd.underlying46 hw
      obtain ⟨x0, h0, w0⟩ := F 0 9 0 rfl
      obtain ⟨x1, h1, w1⟩ := F 1 26 1 rfl
      rw [cells_str] at h0
      rw [cells_val] at h1
      obtain ⟨s, rfl, hs⟩ := string_in Tryd.underlying9 h0 w0
      have e : (List.drop 1 (Value.string (bs s) :: r)).take 6 = r := by
        rw [List.drop_succ_cons, List.drop_zero, List.take_of_length_le (by omega)]
      obtain ⟨m, v, hv⟩ := ih n' (by omega) _ x1 h1 w1
      exact ⟨m, (s, v), r, rfl, hs, by rw [← e]; exact hv⟩
    obtain ⟨A2, c2, n2, o, rfl, hc2, hr2, hb2, hl2⟩ := list_in2 (e := 46) (size := 7) Tryd.underlying24 cells_mem (by decide) bytes_mem (q := MIn2 W W.heap.size) (fun h _ _ ⟨ds, e, hs, hv⟩ => ⟨ds, e, hs, hv.mono h⟩) im h5 w5
    rw [bytes_val88] at hb1
    rw [bytes_mem104] at hb2
    refine ⟨max n1 n2 + 1, .mk k b i s l o, ⟨A1, c1, A2, c2, ?_, hk, hi, hs, hr1, hr2, hc1, hc2, ?_, ?_⟩, ?_⟩
    · simp only [List.drop_succ_cons, List.drop_zero, List.take_succ_cons, List.take_zero] at e1
      injection e1 with e1 _
      subst e1
      rfl
    · intro j v hv
      obtain ⟨g, p, ds, e1, e2, e3, _, e5⟩ := hl1 j v hv
      exact ⟨g, p, ds, e1, e2, e3, e5.1.mono (by omega)⟩
    · intro j m hm
      obtain ⟨g, p, ds, e1, e2, e3, _, ds', rfl, e6, e7⟩ := hl2 j m hm
      exact ⟨g, p, ds', e1, e2, e3, e6, e7.1.mono (by omega)⟩
    · intro m
      cases m with
      | zero => trivial
      | succ m =>
        refine ⟨hb1, hb2, fun x hx => ?_, fun x hx => ?_⟩
        · obtain ⟨j, hj, e⟩ := List.mem_iff_getElem.1 hx
          obtain ⟨g, p, ds, _, _, _, _, e5⟩ := hl1 j x (by rw [← e]; exact List.getElem?_eq_getElem hj)
          exact e5.2 m
        · obtain ⟨j, hj, e⟩ := List.mem_iff_getElem.1 hx
          obtain ⟨g, p, ds, _, _, _, _, ds', _, _, e7⟩ := hl2 j x (by rw [← e]; exact List.getElem?_eq_getElem hj)
          exact e7.2 m
end
end Go.Proofs.YthaikagelloeoaaDoor
