import Derived.Test.YthaikagelloeoaaDoorValKnown3
import Derived.Test.YthaikagelloeoaaDoorValMayRef
namespace Go.Proofs.YthaikagelloeoaaDoor
open Go.RowKit Val

theorem refMayTop_any (n : Nat) (cs : List Value) (v : Val) (w : World) (h : VIn w w.heap.size n cs v) (hT : Tabs w) :
    Calls Tryd.prog 12 #[.agg cs.toArray] w fun e w' => e = .returned (.int .i64 (may n v 1 : Nat)) ∧ Below w.heap.size w w' := by
  obtain ⟨_, B1, e1, B2, e2, -, rfl, -⟩ := h.open
  have hc : ∀ W, Below w.heap.size w W → Calls Tryd.prog 32 _ W _ := fun W hW => refMay_any' n _ v 1 W (h.then hW) (tabs_below hT hW) (by omega) (by omega)
  rw [show (1 : Int).toNat = 1 from rfl] at hc
  obtain ⟨r, hr⟩ : ∃ r, r = may n v 1 := ⟨_, rfl⟩
  rw [← hr] at hc ⊢
  have HC := Lib.hid hc
  have b2 : Below w.heap.size w (w.alloc (.cells #[.int .i64 v.k, .bool v.b, .int .i64 v.i, .string (bs v.s), .slice B1 v.l.length e1, .slice B2 v.o.length e2] 26)) := (Below.refl _ w).alloc (Nat.le_refl _) _
  clear hc hr h
  go_enter Tryd.func12, Tryd.ntmps12
  go_wp2_with fail
  ((with_reducible refine (HC.out _ b2).mono ?_); rintro e w1 ⟨rfl, b1⟩)
  have b3 := bthen b2 b1
  go_wp2
  go_ret
  exact ⟨rfl, b3⟩

set_option maxRecDepth 100000 in
set_option maxHeartbeats 4000000 in
theorem valMay_walk (n : Nat) (cs : List Value) (v : Val) (w : World) (hT : Tabs w) (h : VIn w w.heap.size n cs v) :
    Calls Tryd.prog 3 #[.agg cs.toArray] w fun e w' => e = .returned (.bool true) ∧ Below w.heap.size w w' := by
  obtain ⟨_, B1, e1, B2, e2, -, rfl, -⟩ := h.open
  obtain ⟨r, hr⟩ : ∃ r, r = may n v 1 := ⟨_, rfl⟩
  obtain ⟨W0, hW0⟩ : ∃ W0, w.alloc (.cells #[.int .i64 v.k, .bool v.b, .int .i64 v.i, .string (bs v.s), .slice B1 v.l.length e1, .slice B2 v.o.length e2] 26) = W0 := ⟨_, rfl⟩
  have b0 : Below w.heap.size w W0 := by rw [← hW0]; exact (Below.refl _ w).alloc (Nat.le_refl _) _
  have z0 : W0.heap.size = w.heap.size + 1 := by rw [← hW0]; exact World.size_alloc _ _
  have c1 : ∀ W, Below W0.heap.size W0 W → Calls Tryd.prog 11 _ W _ := fun W hW => (mayTop_any n _ v W (h.then (bthen b0 hW)) (tabs_below hT (bthen b0 hW))).mono (R' := fun e w' => e = .returned (.int .i64 (may n v 1 : Nat)) ∧ Below W0.heap.size W0 w') fun e w' ⟨he, hb⟩ => ⟨he, bthen hW hb⟩
  have c2 : ∀ W, Below W0.heap.size W0 W → Calls Tryd.prog 12 _ W _ := fun W hW => (refMayTop_any n _ v W (h.then (bthen b0 hW)) (tabs_below hT (bthen b0 hW))).mono (R' := fun e w' => e = .returned (.int .i64 (may n v 1 : Nat)) ∧ Below W0.heap.size W0 w') fun e w' ⟨he, hb⟩ => ⟨he, bthen hW hb⟩
  have c3 : ∀ W, Below W0.heap.size W0 W → Calls Tryd.prog 13 #[] W _ := fun W hW => (valKnown_any W (tabs_below hT (bthen b0 hW))).mono (R' := fun e w' => e = .returned (.bool true) ∧ Below W0.heap.size W0 w') fun e w' ⟨he, hb⟩ => ⟨he, bthen hW hb⟩
  rw [← hr] at c1 c2
  have C1 := Lib.hid c1
  have C2 := Lib.hid c2
  have C3 := Lib.hid c3
  have hbox : Hid (∀ W, Below W0.heap.size W0 W → W.cell? ⟨w.heap.size, 0, none⟩ = some (.int .i64 v.k) ∧ W.cell? ⟨w.heap.size, 1, none⟩ = some (.bool v.b) ∧ W.cell? ⟨w.heap.size, 2, none⟩ = some (.int .i64 v.i) ∧ W.cell? ⟨w.heap.size, 3, none⟩ = some (.string (bs v.s)) ∧ W.cell? ⟨w.heap.size, 4, none⟩ = some (.slice B1 v.l.length e1) ∧ W.cell? ⟨w.heap.size, 5, none⟩ = some (.slice B2 v.o.length e2)) := fun W hW => by
    rw [z0, ← hW0] at hW
    exact box6 hW
  have hfin : Hid (∀ W, Below W0.heap.size W0 W → Below w.heap.size w W) := fun W hW => bthen b0 hW
  have hb := Below.refl W0.heap.size W0
  obtain ⟨q0, q1, q2, q3, q4, q5⟩ := hbox.out W0 hb
  have HW0 := Lib.hid hW0
  clear c1 c2 c3 hr h hW0 b0 z0 hT
  go_enter Tryd.func3, Tryd.ntmps3
  go_wp2_with fail
  rw [HW0.out]
  go_region_with (first
    | (go_at_call 11; (with_reducible refine (C1.out _ (by first | assumption | exact Below.drew (by assumption))).mono ?_); rintro e w' ⟨rfl, hb1⟩; obtain ⟨q0, q1, q2, q3, q4, q5⟩ := hbox.out _ hb1)
    | (go_at_call 12; (with_reducible refine (C2.out _ (by first | assumption | exact Below.drew (by assumption))).mono ?_); rintro e w' ⟨rfl, hb2⟩; obtain ⟨q0, q1, q2, q3, q4, q5⟩ := hbox.out _ hb2)
    | (go_at_call 13; (with_reducible refine (C3.out _ (by first | assumption | exact Below.drew (by assumption))).mono ?_); rintro e w' ⟨rfl, hb3⟩))
  all_goals
    go_wp2
    go_ret
    exact ⟨rfl, hfin.out _ (by assumption)⟩
end Go.Proofs.YthaikagelloeoaaDoor
