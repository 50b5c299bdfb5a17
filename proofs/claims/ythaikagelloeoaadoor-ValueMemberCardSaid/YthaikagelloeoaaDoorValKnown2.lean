import Derived.Test.YthaikagelloeoaaDoorValKnown
import Derived.Test.YthaikagelloeoaaDoorValCompare
import Derived.Test.YthaikagelloeoaaDoorValMay
namespace Go.Proofs.YthaikagelloeoaaDoor
open Go.RowKit Val

theorem row_keep {w w' : World} {g : Nat} {o : Obj} (hb : Below w.heap.size w w') (h : w.heap[g]? = some o) : w'.heap[g]? = some o := by
  have hg : g < w.heap.size := (Array.getElem?_eq_some_iff.1 h).1
  rw [hb.block g hg, h]
theorem mayTop_any (n : Nat) (cs : List Value) (v : Val) (w : World) (h : VIn w w.heap.size n cs v) (hT : Tabs w) :
    Calls Tryd.prog 11 #[.agg cs.toArray] w fun e w' => e = .returned (.int .i64 (may n v 1 : Nat)) ∧ Below w.heap.size w w' := by
  obtain ⟨_, B1, e1, B2, e2, -, rfl, -⟩ := h.open
  have hc : ∀ W, Below w.heap.size w W → Calls Tryd.prog 31 _ W _ := fun W hW => may_any' n _ v 1 W (h.then hW) (tabs_below hT hW) (by omega) (by omega)
  rw [show (1 : Int).toNat = 1 from rfl] at hc
  obtain ⟨r, hr⟩ : ∃ r, r = may n v 1 := ⟨_, rfl⟩
  rw [← hr] at hc ⊢
  have HC := Lib.hid hc
  have b2 : Below w.heap.size w (w.alloc (.cells #[.int .i64 v.k, .bool v.b, .int .i64 v.i, .string (bs v.s), .slice B1 v.l.length e1, .slice B2 v.o.length e2] 26)) := (Below.refl _ w).alloc (Nat.le_refl _) _
  clear hc hr h
  go_enter Tryd.func11, Tryd.ntmps11
  go_wp2_with fail
  ((with_reducible refine (HC.out _ b2).mono ?_); rintro e w1 ⟨rfl, b1⟩)
  have b3 := bthen b2 b1
  go_wp2
  go_ret
  exact ⟨rfl, b3⟩

/-- The rows that 'known' makes, and what reads them. -/
def flatR (k : Int) (b : Bool) (i : Int) (s : ByteArray) : List Value := [.int .i64 k, .bool b, .int .i64 i, .string s, .slice none 0 0, .slice none 0 0]
def listR (A : Option Addr) (n c : Nat) : List Value := [.int .i64 5, .bool false, .int .i64 0, .string ⟨#[]⟩, .slice A n c, .slice none 0 0]
def objR (A : Option Addr) (n c : Nat) : List Value := [.int .i64 6, .bool false, .int .i64 0, .string ⟨#[]⟩, .slice none 0 0, .slice A n c]
theorem k1_in {W : World} {g1 g2 g3 : Nat} {t t' : TypeId} (h1 : W.heap[g1]? = some (.cells (flatR 3 false 2 ⟨#[]⟩).toArray t (0, 0)))
    (h2 : W.heap[g2]? = some (.cells (.string ⟨#[97]⟩ :: listR none 0 0).toArray t' (0, 0)))
    (h3 : W.heap[g3]? = some (.cells (flatR 3 false 1 ⟨#[]⟩ ++ listR (some ⟨g1, 0, none⟩) 1 1 ++ objR (some ⟨g2, 0, none⟩) 1 1).toArray t (0, 0))) :
    VIn W W.heap.size 4 (listR (some ⟨g3, 0, none⟩) 3 3) k1 := by
  have s1 : g1 < W.heap.size := (Array.getElem?_eq_some_iff.1 h1).1
  have s2 : g2 < W.heap.size := (Array.getElem?_eq_some_iff.1 h2).1
  have s3 : g3 < W.heap.size := (Array.getElem?_eq_some_iff.1 h3).1
  refine vin_list [flat 3 false 1 [], listV [flat 3 false 2 []], objV [([97], .mk 5 false 0 [] [] [])]] (by decide) (by decide) s3 fun j x hx => ?_
  match j, hx with
  | 0, hx =>
    injection hx with hx; subst hx
    exact ⟨flatR 3 false 1 ⟨#[]⟩, range_of_row h3 0 _ (by intro i v hv; match i, hv with | 0, h => exact h | 1, h => exact h | 2, h => exact h | 3, h => exact h | 4, h => exact h | 5, h => exact h), vin_flat _ _ _ 3 false 1 [] ⟨by omega, by omega⟩ ⟨by omega, by omega⟩ (by simp) (by omega)⟩
  | 1, hx =>
    injection hx with hx; subst hx
    refine ⟨listR (some ⟨g1, 0, none⟩) 1 1, range_of_row h3 6 _ (by intro i v hv; match i, hv with | 0, h => exact h | 1, h => exact h | 2, h => exact h | 3, h => exact h | 4, h => exact h | 5, h => exact h), vin_list [flat 3 false 2 []] (by decide) (by decide) s1 fun j x hx => ?_⟩
    match j, hx with
    | 0, hx =>
      injection hx with hx; subst hx
      exact ⟨flatR 3 false 2 ⟨#[]⟩, range_of_row h1 0 _ (by intro i v hv; match i, hv with | 0, h => exact h | 1, h => exact h | 2, h => exact h | 3, h => exact h | 4, h => exact h | 5, h => exact h), vin_flat _ _ _ 3 false 2 [] ⟨by omega, by omega⟩ ⟨by omega, by omega⟩ (by simp) (by omega)⟩
  | 2, hx =>
    injection hx with hx; subst hx
    refine ⟨objR (some ⟨g2, 0, none⟩) 1 1, range_of_row h3 12 _ (by intro i v hv; match i, hv with | 0, h => exact h | 1, h => exact h | 2, h => exact h | 3, h => exact h | 4, h => exact h | 5, h => exact h), vin_obj [([97], .mk 5 false 0 [] [] [])] (by decide) (by decide) s2 fun j x hx => ?_⟩
    match j, hx with
    | 0, hx =>
      injection hx with hx; subst hx
      exact ⟨listR none 0 0, range_of_row h2 0 _ (by intro i v hv; match i, hv with | 0, h => exact h | 1, h => exact h | 2, h => exact h | 3, h => exact h | 4, h => exact h | 5, h => exact h | 6, h => exact h), by decide, vin_flat _ _ _ 5 false 0 [] ⟨by omega, by omega⟩ ⟨by omega, by omega⟩ (by simp) (by omega)⟩
def klR (g : Nat) : List (List Value) := [flatR 1 false 0 ⟨#[]⟩, flatR 2 false 0 ⟨#[]⟩, flatR 3 false 3 ⟨#[]⟩, flatR 4 false 0 ⟨#[97]⟩, listR none 0 0, listR (some ⟨g, 0, none⟩) 1 1, flatR 6 false 0 ⟨#[]⟩]
theorem kl_in {W : World} {g1 g : Nat} {t : TypeId} (h1 : W.heap[g1]? = some (.cells (flatR 3 false 1 ⟨#[]⟩).toArray t (0, 0)))
    (h : W.heap[g]? = some (.cells (klR g1).flatten.toArray t (0, 0))) (j : Nat) (x : Val) (hx : kl[j]? = some x) :
    ∃ ds, W.rangeAt g (0 + j * 6) ds ∧ VIn W W.heap.size 4 ds x := by
  have s1 : g1 < W.heap.size := (Array.getElem?_eq_some_iff.1 h1).1
  have r : ∀ ds : List Value, (∀ i v, ds[i]? = some v → (klR g1).flatten[0 + j * 6 + i]? = some v) → W.rangeAt g (0 + j * 6) ds := fun ds hd => range_of_row h _ _ (fun i v hv => by rw [← Array.getElem?_toList]; exact hd i v hv)
  match j, hx with
  | 0, hx => injection hx with hx; subst hx; exact ⟨_, r (flatR 1 false 0 ⟨#[]⟩) (by intro i v hv; match i, hv with | 0, h => exact h | 1, h => exact h | 2, h => exact h | 3, h => exact h | 4, h => exact h | 5, h => exact h), vin_flat _ _ _ 1 false 0 [] ⟨by omega, by omega⟩ ⟨by omega, by omega⟩ (by simp) (by omega)⟩
  | 1, hx => injection hx with hx; subst hx; exact ⟨_, r (flatR 2 false 0 ⟨#[]⟩) (by intro i v hv; match i, hv with | 0, h => exact h | 1, h => exact h | 2, h => exact h | 3, h => exact h | 4, h => exact h | 5, h => exact h), vin_flat _ _ _ 2 false 0 [] ⟨by omega, by omega⟩ ⟨by omega, by omega⟩ (by simp) (by omega)⟩
  | 2, hx => injection hx with hx; subst hx; exact ⟨_, r (flatR 3 false 3 ⟨#[]⟩) (by intro i v hv; match i, hv with | 0, h => exact h | 1, h => exact h | 2, h => exact h | 3, h => exact h | 4, h => exact h | 5, h => exact h), vin_flat _ _ _ 3 false 3 [] ⟨by omega, by omega⟩ ⟨by omega, by omega⟩ (by simp) (by omega)⟩
  | 3, hx => injection hx with hx; subst hx; exact ⟨_, r (flatR 4 false 0 ⟨#[97]⟩) (by intro i v hv; match i, hv with | 0, h => exact h | 1, h => exact h | 2, h => exact h | 3, h => exact h | 4, h => exact h | 5, h => exact h), vin_flat _ _ _ 4 false 0 [97] ⟨by omega, by omega⟩ ⟨by omega, by omega⟩ (by simp) (by omega)⟩
  | 4, hx => injection hx with hx; subst hx; exact ⟨_, r (listR none 0 0) (by intro i v hv; match i, hv with | 0, h => exact h | 1, h => exact h | 2, h => exact h | 3, h => exact h | 4, h => exact h | 5, h => exact h), vin_flat _ _ _ 5 false 0 [] ⟨by omega, by omega⟩ ⟨by omega, by omega⟩ (by simp) (by omega)⟩
  | 5, hx =>
    injection hx with hx; subst hx
    refine ⟨_, r (listR (some ⟨g1, 0, none⟩) 1 1) (by intro i v hv; match i, hv with | 0, h => exact h | 1, h => exact h | 2, h => exact h | 3, h => exact h | 4, h => exact h | 5, h => exact h), vin_list [flat 3 false 1 []] (by decide) (by decide) s1 fun j x hx => ?_⟩
    match j, hx with
    | 0, hx =>
      injection hx with hx; subst hx
      exact ⟨flatR 3 false 1 ⟨#[]⟩, range_of_row h1 0 _ (by intro i v hv; match i, hv with | 0, h => exact h | 1, h => exact h | 2, h => exact h | 3, h => exact h | 4, h => exact h | 5, h => exact h), vin_flat _ _ _ 3 false 1 [] ⟨by omega, by omega⟩ ⟨by omega, by omega⟩ (by simp) (by omega)⟩
  | 6, hx => injection hx with hx; subst hx; exact ⟨_, r (flatR 6 false 0 ⟨#[]⟩) (by intro i v hv; match i, hv with | 0, h => exact h | 1, h => exact h | 2, h => exact h | 3, h => exact h | 4, h => exact h | 5, h => exact h), vin_flat _ _ _ 6 false 0 [] ⟨by omega, by omega⟩ ⟨by omega, by omega⟩ (by simp) (by omega)⟩
theorem kl_at (j : Nat) (hj : j < 6) : ∃ x y, kl[j]? = some x ∧ kl[j + 1]? = some y ∧ cmp 4 x y = -1 ∧ may 4 x 1 = 0 := by
  have h := List.all_eq_true.1 kl_cmp j (List.mem_range.2 hj)
  have l : kl.length = 7 := rfl
  obtain ⟨x, hx⟩ : ∃ x, kl[j]? = some x := ⟨_, List.getElem?_eq_getElem (by omega)⟩
  obtain ⟨y, hy⟩ : ∃ y, kl[j + 1]? = some y := ⟨_, List.getElem?_eq_getElem (by omega)⟩
  rw [hx, hy] at h
  simp only [Bool.and_eq_true, beq_iff_eq] at h
  exact ⟨x, y, hx, hy, h.1, h.2⟩
end Go.Proofs.YthaikagelloeoaaDoor
