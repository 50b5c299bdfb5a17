/- A log's At. -/
import Derived.Test.YtkdlfgfjahnhmaaLogPut
namespace Go.Proofs.Ytkdlfgfjahnhmaa
open Go.RowKit
set_option linter.unusedSimpArgs false
set_option linter.unusedVariables false
/-- A call answers a tree, and whether there is one. -/
def AtIs (w : World) (p : Option Addr) (b : Bool) (e : Ending) (w' : World) : Prop := e = .returned (.tuple #[treeV p, .bool b]) ∧ Below w.heap.size w w'
theorem froz_alloc2 (w : World) (a b : Value) (t : TypeId) (i : Nat) : (w.alloc (.cells #[a, b] t)).frozen? ⟨w.heap.size, i, none⟩ = false := frozen_of_row _ _ i _ _ (heap_alloc_new w _)
set_option maxRecDepth 100000 in
set_option maxHeartbeats 4000000 in
theorem at_in (w : World) {g r n : Nat} {ring : Nat → Option Addr} {newest count : Nat} (h : LG w g r n ring newest count) (v : Nat) (hc : 0 < count) (hle : count ≤ newest + 1) (h1 : newest + 1 ≤ v + count) (h2 : v ≤ newest) :
    Calls Try.prog 18 #[.pointer (some ⟨g, 0, none⟩), .int .u64 (v : Int)] w (AtIs w (ring (v % n)) true) := by
  have hl := h.lim
  have HO := Lib.hid fun V (hV : Below w.heap.size w V) => oldest_any V (h.then hV) hc hle
  have HP := Lib.hid fun V (hV : Below w.heap.size w V) => place_any V (h.then hV) v (by omega)
  have HL := Lib.hid fun V (hV : Below w.heap.size w V) => h.then hV
  obtain ⟨m, hm⟩ : ∃ m, v % n = m := ⟨_, rfl⟩
  have hmn : m < n := by rw [← hm]; exact Nat.mod_lt _ hl.1
  simp only [hm] at HP ⊢
  obtain ⟨o, ho⟩ : ∃ o, newest + 1 - count = o := ⟨_, rfl⟩
  simp only [ho] at HO
  have e1 : decide (v < o) = false := by simp; omega
  have e2 : decide (newest < v) = false := by simp; omega
  have hlt := h.lt
  have hwg : w.heap.size ≠ g := by omega
  have hwg' : g ≠ w.heap.size := by omega
  have hwr : w.heap.size ≠ r := by omega
  have hwr' : r ≠ w.heap.size := by omega
  have hmI : (m : Int) < (n : Int) := by omega
  clear h hm ho hc hle h1 h2 hl
  go_enter Try.func18, Try.ntmps18
  go_wp2_with fail
  ((with_reducible refine (HO.out _ ((Below.refl _ w).alloc (Nat.le_refl _) _)).mono ?_); rintro e w1 ⟨rfl, q, rfl⟩)
  obtain ⟨W, hW⟩ : ∃ W, (w.alloc (.cells #[.pointer none, .nilFunc] 40)).drewN q = W := ⟨_, rfl⟩
  rw [hW]
  have hB : Below w.heap.size w W := by rw [← hW]; exact Below.drewN' ((Below.refl _ w).alloc (Nat.le_refl _) _) q
  have a0 : W.cell? ⟨w.heap.size, 0, none⟩ = some (.pointer none) := by rw [← hW]; exact (cell_alloc2 w _ _ _).1
  have a1 : W.cell? ⟨w.heap.size, 1, none⟩ = some .nilFunc := by rw [← hW]; exact (cell_alloc2 w _ _ _).2
  have b0 : W.frozen? ⟨w.heap.size, 0, none⟩ = false := by rw [← hW]; exact froz_alloc2 w _ _ _ 0
  have b1 : W.frozen? ⟨w.heap.size, 1, none⟩ = false := by rw [← hW]; exact froz_alloc2 w _ _ _ 1
  have L := HL.out W hB
  have c0 := L.c0
  have c1 := L.c1
  have r0 := L.at0 hmn
  have r1 := L.at1 hmn
  obtain ⟨p, hp⟩ : ∃ p, ring m = p := ⟨_, rfl⟩
  rw [hp] at r0
  have HPP := Lib.hid hp
  have a1' : (W.setCell ⟨w.heap.size, 0, none⟩ (.pointer p)).cell? ⟨w.heap.size, 1, none⟩ = some .nilFunc := by rw [World.cell?_setCell_other _ _ _ _ (fun h => by injection h with _ h; omega)]; exact a1
  have HB := Lib.hid hB
  have hz : w.heap.size < W.heap.size := by rw [← hW]; simp
  have y0 : ((W.setCell ⟨w.heap.size, 0, none⟩ (.pointer p)).setCell ⟨w.heap.size, 1, none⟩ .nilFunc).cell? ⟨w.heap.size, 0, none⟩ = some (.pointer p) := by
    rw [World.cell?_setCell_other _ _ _ _ (fun h => by injection h with _ h; omega)]
    exact World.cell?_setCell_same' _ _ _ (by rw [a0]; rfl)
  have y1 : ((W.setCell ⟨w.heap.size, 0, none⟩ (.pointer p)).setCell ⟨w.heap.size, 1, none⟩ .nilFunc).cell? ⟨w.heap.size, 1, none⟩ = some .nilFunc := World.cell?_setCell_same' _ _ _ (by rw [a1']; rfl)
  clear L hB HO hW hp
  go_wp2
  go_region_held3 (fun w' => w'.cell? ⟨g, 0, none⟩ = some (.slice (some ⟨r, 0, none⟩) n n) ∧ w'.cell? ⟨r, m * 2, none⟩ = some (.pointer p) ∧ w'.cell? ⟨r, m * 2 + 1, none⟩ = some .nilFunc) (go_keep) (first | (go_at_call 27; (with_reducible refine (HP.out _ (HB.out.drew)).mono ?_); rintro e w4 ⟨rfl, rfl⟩))
  go_wp2
  refine bodyPost_ret (v := .tuple #[treeV p, .bool true]) (by simp [results, Try.results18, go_sem, y0, y1, treeV]) rfl ⟨by rw [HPP.out], ?_⟩
  exact ((HB.out.setCell (p := ⟨w.heap.size, 0, none⟩) (Nat.le_refl _) _).setCell (p := ⟨w.heap.size, 1, none⟩) (Nat.le_refl _) _).drew
set_option maxRecDepth 100000 in
set_option maxHeartbeats 4000000 in
theorem at_out (w : World) {g r n : Nat} {ring : Nat → Option Addr} {newest count : Nat} (h : LG w g r n ring newest count) (v : Nat) (hc : 0 < count) (hle : count ≤ newest + 1) (h1 : v + count < newest + 1 ∨ newest < v) :
    Calls Try.prog 18 #[.pointer (some ⟨g, 0, none⟩), .int .u64 (v : Int)] w (AtIs w none false) := by
  have HO := Lib.hid fun V (hV : Below w.heap.size w V) => oldest_any V (h.then hV) hc hle
  have HL := Lib.hid fun V (hV : Below w.heap.size w V) => h.then hV
  obtain ⟨o, ho⟩ : ∃ o, newest + 1 - count = o := ⟨_, rfl⟩
  simp only [ho] at HO
  have e : decide (v < o) = true ∨ decide (v < o) = false ∧ decide (newest < v) = true := by simp only [decide_eq_true_eq, decide_eq_false_iff_not]; omega
  have hlt := h.lt
  have hwg : w.heap.size ≠ g := by omega
  have hwg' : g ≠ w.heap.size := by omega
  clear h ho hc hle h1
  go_enter Try.func18, Try.ntmps18
  go_wp2_with fail
  ((with_reducible refine (HO.out _ ((Below.refl _ w).alloc (Nat.le_refl _) _)).mono ?_); rintro e w1 ⟨rfl, q, rfl⟩)
  obtain ⟨W, hW⟩ : ∃ W, (w.alloc (.cells #[.pointer none, .nilFunc] 40)).drewN q = W := ⟨_, rfl⟩
  rw [hW]
  have hB : Below w.heap.size w W := by rw [← hW]; exact Below.drewN' ((Below.refl _ w).alloc (Nat.le_refl _) _) q
  have a0 : W.cell? ⟨w.heap.size, 0, none⟩ = some (.pointer none) := by rw [← hW]; exact (cell_alloc2 w _ _ _).1
  have a1 : W.cell? ⟨w.heap.size, 1, none⟩ = some .nilFunc := by rw [← hW]; exact (cell_alloc2 w _ _ _).2
  have b0 : W.frozen? ⟨w.heap.size, 0, none⟩ = false := by rw [← hW]; exact froz_alloc2 w _ _ _ 0
  have b1 : W.frozen? ⟨w.heap.size, 1, none⟩ = false := by rw [← hW]; exact froz_alloc2 w _ _ _ 1
  have L := HL.out W hB
  have c1 := L.c1
  have a1' : (W.setCell ⟨w.heap.size, 0, none⟩ (.pointer none)).cell? ⟨w.heap.size, 1, none⟩ = some .nilFunc := by rw [World.cell?_setCell_other _ _ _ _ (fun h => by injection h with _ h; omega)]; exact a1
  have HB := Lib.hid hB
  have y0 : ((W.setCell ⟨w.heap.size, 0, none⟩ (.pointer none)).setCell ⟨w.heap.size, 1, none⟩ .nilFunc).cell? ⟨w.heap.size, 0, none⟩ = some (.pointer none) := by
    rw [World.cell?_setCell_other _ _ _ _ (fun h => by injection h with _ h; omega)]
    exact World.cell?_setCell_same' _ _ _ (by rw [a0]; rfl)
  have y1 : ((W.setCell ⟨w.heap.size, 0, none⟩ (.pointer none)).setCell ⟨w.heap.size, 1, none⟩ .nilFunc).cell? ⟨w.heap.size, 1, none⟩ = some .nilFunc := World.cell?_setCell_same' _ _ _ (by rw [a1']; rfl)
  clear L hB HO hW
  rcases e with e1 | ⟨e1, e2⟩
  all_goals
    go_wp2
    refine bodyPost_ret (v := .tuple #[treeV none, .bool false]) (by simp [results, Try.results18, go_sem, y0, y1, a0, a1, treeV]) rfl ⟨rfl, ?_⟩
    first
      | exact (HB.out.setCell (p := ⟨w.heap.size, 0, none⟩) (Nat.le_refl _) _).setCell (p := ⟨w.heap.size, 1, none⟩) (Nat.le_refl _) _
      | exact ((HB.out.setCell (p := ⟨w.heap.size, 0, none⟩) (Nat.le_refl _) _).setCell (p := ⟨w.heap.size, 1, none⟩) (Nat.le_refl _) _).drew
end Go.Proofs.Ytkdlfgfjahnhmaa
