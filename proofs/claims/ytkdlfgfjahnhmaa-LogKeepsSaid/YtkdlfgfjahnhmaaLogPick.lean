/- Picking one of the five trees; is it the same one; a log without versions. -/
import Derived.Test.YtkdlfgfjahnhmaaLogKnown
namespace Go.Proofs.Ytkdlfgfjahnhmaa
open Go.RowKit
set_option linter.unusedSimpArgs false
set_option linter.unusedVariables false
/-- The trees' roots. -/
def TR (p1 p2 p3 p4 : Nat) : Nat → Option Addr
  | 0 => none
  | 1 => some ⟨p1, 0, none⟩
  | 2 => some ⟨p2, 0, none⟩
  | 3 => some ⟨p3, 0, none⟩
  | _ => some ⟨p4, 0, none⟩
theorem trees_get (p1 p2 p3 p4 k : Nat) (h : k < 5) : (TreesV p1 p2 p3 p4)[k * 2]? = some (.pointer (TR p1 p2 p3 p4 k)) ∧ (TreesV p1 p2 p3 p4)[k * 2 + 1]? = some .nilFunc := by
  have : k = 0 ∨ k = 1 ∨ k = 2 ∨ k = 3 ∨ k = 4 := by omega
  rcases this with rfl | rfl | rfl | rfl | rfl <;> exact ⟨rfl, rfl⟩
/-- A call answers a tree, and a number. -/
def PickIs (w : World) (p : Option Addr) (k : Nat) (e : Ending) (w' : World) : Prop := e = .returned (.tuple #[.agg #[.pointer p, .nilFunc], .int .i64 (k : Int)]) ∧ Below w.heap.size w w'
set_option maxRecDepth 100000 in
set_option maxHeartbeats 4000000 in
theorem pick_any (w : World) (b p1 p2 p3 p4 n : Nat) (h : w.heap[b]? = some (.cells (TreesV p1 p2 p3 p4).toArray 40 (0, 0))) (hn : n ≤ 1000000) :
    Calls Try.prog 12 #[.slice (some ⟨b, 0, none⟩) 5 5, .int .i64 (n : Int)] w (PickIs w (TR p1 p2 p3 p4 (n % 5)) (n % 5)) := by
  obtain ⟨m, hm⟩ : ∃ m, n % 5 = m := ⟨_, rfl⟩
  have hm5 : m < 5 := by omega
  have hmI : (n : Int) % 5 = (m : Int) := by omega
  have hmJ : (m : Int) < 5 := by omega
  rw [hm]
  have hlt : b < w.heap.size := (Array.getElem?_eq_some_iff.1 h).1
  obtain ⟨t0, t1⟩ := trees_get p1 p2 p3 p4 m hm5
  obtain ⟨p, hp⟩ : ∃ p, TR p1 p2 p3 p4 m = p := ⟨_, rfl⟩
  rw [hp] at t0 ⊢
  have c0 := tree_at h _ _ t0
  have c1 := tree_at h _ _ t1
  have hne : b ≠ w.heap.size := by omega
  have hne' : w.heap.size ≠ b := by omega
  have a0 := (cell_alloc2 w (.pointer none) .nilFunc 40).1
  have a1 := (cell_alloc2 w (.pointer none) .nilFunc 40).2
  have f0 := froz_alloc2 w (.pointer none) .nilFunc 40 0
  have f1 := froz_alloc2 w (.pointer none) .nilFunc 40 1
  have hB : Below w.heap.size w (w.alloc (.cells #[.pointer none, .nilFunc] 40)) := (Below.refl _ w).alloc (Nat.le_refl _) _
  have g0 := (hB.cell (p := ⟨b, m * 2, none⟩) hlt).trans c0
  have g1 := (hB.cell (p := ⟨b, m * 2 + 1, none⟩) hlt).trans c1
  have a1' : ((w.alloc (.cells #[.pointer none, .nilFunc] 40)).setCell ⟨w.heap.size, 0, none⟩ (.pointer p)).cell? ⟨w.heap.size, 1, none⟩ = some .nilFunc := by rw [World.cell?_setCell_other _ _ _ _ (fun h => by injection h with _ h; omega)]; exact a1
  have y0 : (((w.alloc (.cells #[.pointer none, .nilFunc] 40)).setCell ⟨w.heap.size, 0, none⟩ (.pointer p)).setCell ⟨w.heap.size, 1, none⟩ .nilFunc).cell? ⟨w.heap.size, 0, none⟩ = some (.pointer p) := by
    rw [World.cell?_setCell_other _ _ _ _ (fun h => by injection h with _ h; omega)]
    exact World.cell?_setCell_same' _ _ _ (by rw [a0]; rfl)
  have y1 : (((w.alloc (.cells #[.pointer none, .nilFunc] 40)).setCell ⟨w.heap.size, 0, none⟩ (.pointer p)).setCell ⟨w.heap.size, 1, none⟩ .nilFunc).cell? ⟨w.heap.size, 1, none⟩ = some .nilFunc := World.cell?_setCell_same' _ _ _ (by rw [a1']; rfl)
  have HB := Lib.hid hB
  clear hm hp t0 t1 h c0 c1 hB
  go_enter Try.func12, Try.ntmps12
  go_wp2
  refine bodyPost_ret (v := .tuple #[.agg #[.pointer p, .nilFunc], .int .i64 (m : Int)]) (by simp [results, Try.results12, go_sem, y0, y1]) rfl ⟨rfl, ?_⟩
  exact (Below.refl _ w).alloc (Nat.le_refl _) _
theorem ptr_same (a : Addr) (W : World) : (binOp .eql 38 (.pointer (some a)) (.pointer (some a))).run Try.prog W = .ok (.bool true) W := by
  have h : ∀ d : Nat, (Op.equalIn (d + 1) 38 (.pointer (some a)) (.pointer (some a))).run Try.prog W = .ok true W := fun d => by
    simp [Op.equalIn, run_underlying Try.underlying38, sameAddr]
  simp only [binOp]
  simp [Op.equal, Op.maxDepth, h 9999]
set_option maxRecDepth 100000 in
set_option maxHeartbeats 4000000 in
theorem is_same (w : World) (p : Option Addr) :
    Calls Try.prog 19 #[.agg #[.pointer p, .nilFunc], .agg #[.pointer p, .nilFunc]] w fun e w' => e = .returned (.bool true) ∧ Below w.heap.size w w' := by
  cases p with
  | none =>
    go_enter Try.func19, Try.ntmps19
    go_wp2
    go_ret
    refine ⟨by first | rfl | simp, ?_⟩
    go_grown
  | some p =>
    have hps := ptr_same p
    go_enter Try.func19, Try.ntmps19
    go_wp2
    go_ret
    refine ⟨rfl, ?_⟩
    go_grown
set_option maxRecDepth 100000 in
set_option maxHeartbeats 4000000 in
theorem at_none (w : World) {g r n : Nat} {ring : Nat → Option Addr} {newest : Nat} (h : LG w g r n ring newest 0) (v : Nat) (hv : v ≤ 9223372036854775807) :
    Calls Try.prog 18 #[.pointer (some ⟨g, 0, none⟩), .int .u64 (v : Int)] w (AtIs w none false) := by
  have HO := Lib.hid fun V (hV : Below w.heap.size w V) => oldest_none V (h.then hV)
  have hB : Below w.heap.size w (w.alloc (.cells #[.pointer none, .nilFunc] 40)) := (Below.refl _ w).alloc (Nat.le_refl _) _
  have a0 := (cell_alloc2 w (.pointer none) .nilFunc 40).1
  have a1 := (cell_alloc2 w (.pointer none) .nilFunc 40).2
  have f0 := froz_alloc2 w (.pointer none) .nilFunc 40 0
  have f1 := froz_alloc2 w (.pointer none) .nilFunc 40 1
  have a1' : ((w.alloc (.cells #[.pointer none, .nilFunc] 40)).setCell ⟨w.heap.size, 0, none⟩ (.pointer none)).cell? ⟨w.heap.size, 1, none⟩ = some .nilFunc := by rw [World.cell?_setCell_other _ _ _ _ (fun h => by injection h with _ h; omega)]; exact a1
  have y0 : (((w.alloc (.cells #[.pointer none, .nilFunc] 40)).setCell ⟨w.heap.size, 0, none⟩ (.pointer none)).setCell ⟨w.heap.size, 1, none⟩ .nilFunc).cell? ⟨w.heap.size, 0, none⟩ = some (.pointer none) := by
    rw [World.cell?_setCell_other _ _ _ _ (fun h => by injection h with _ h; omega)]
    exact World.cell?_setCell_same' _ _ _ (by rw [a0]; rfl)
  have y1 : (((w.alloc (.cells #[.pointer none, .nilFunc] 40)).setCell ⟨w.heap.size, 0, none⟩ (.pointer none)).setCell ⟨w.heap.size, 1, none⟩ .nilFunc).cell? ⟨w.heap.size, 1, none⟩ = some .nilFunc := World.cell?_setCell_same' _ _ _ (by rw [a1']; rfl)
  have HB := Lib.hid hB
  clear h hv hB
  go_enter Try.func18, Try.ntmps18
  go_wp2_with fail
  ((with_reducible refine (HO.out _ HB.out).mono ?_); rintro e w1 ⟨rfl, rfl⟩)
  go_wp2
  refine bodyPost_ret (v := .tuple #[treeV none, .bool false]) (by simp [results, Try.results18, go_sem, y0, y1, a0, a1, treeV]) rfl ⟨rfl, ?_⟩
  first
    | exact (HB.out.setCell (p := ⟨w.heap.size, 0, none⟩) (Nat.le_refl _) _).setCell (p := ⟨w.heap.size, 1, none⟩) (Nat.le_refl _) _
    | exact HB.out
end Go.Proofs.Ytkdlfgfjahnhmaa
