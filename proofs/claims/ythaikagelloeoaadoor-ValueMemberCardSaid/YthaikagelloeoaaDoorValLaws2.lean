import Derived.Test.YthaikagelloeoaaDoorValLaws
import Derived.Test.YthaikagelloeoaaDoorValCompareRef
import Derived.Deep.RegionHeld3
namespace Go.Proofs.YthaikagelloeoaaDoor
open Go.RowKit Val

theorem sign_any (c : Int) (w : World) (h : c = -1 ∨ c = 0 ∨ c = 1) : Calls Tryd.prog 15 #[.int .i64 c] w fun e w' => e = .returned (.int .i64 c) ∧ w = w' := by
  rcases h with rfl | rfl | rfl
  all_goals
    go_enter Tryd.func15, Tryd.ntmps15
    go_wp2
    go_ret
    exact ⟨rfl, rfl⟩

/-- What a law over one value meets: its box, and the contracts, in every world behind it. -/
abbrev box1 (v : Val) (B1 B2 : Option Addr) (e1 e2 : Nat) : Array Value := #[.int .i64 v.k, .bool v.b, .int .i64 v.i, .string (bs v.s), .slice B1 v.l.length e1, .slice B2 v.o.length e2]

set_option maxRecDepth 100000 in
set_option maxHeartbeats 4000000 in
theorem valOrders_walk (n : Nat) (cs : List Value) (v : Val) (m : Nat) (cs' : List Value) (v' : Val) (w : World) (hT : Tabs w) (h : VIn w w.heap.size n cs v) (h' : VIn w w.heap.size m cs' v') :
    Calls Tryd.prog 4 #[.agg cs.toArray, .agg cs'.toArray] w fun e w' => e = .returned (.bool true) ∧ Below w.heap.size w w' := by
  have h := h.mono (Nat.le_max_left n m)
  have h' := h'.mono (Nat.le_max_right n m)
  obtain ⟨k, hk⟩ : ∃ k, k = max n m := ⟨_, rfl⟩
  rw [← hk] at h h'
  clear hk
  obtain ⟨_, B1, e1, B2, e2, -, rfl, -⟩ := h.open
  obtain ⟨_, B3, e3, B4, e4, -, rfl, -⟩ := h'.open
  obtain ⟨r, hr⟩ : ∃ r, r = cmp k v v' := ⟨_, rfl⟩
  have hr3 : r = -1 ∨ r = 0 ∨ r = 1 := by rw [hr]; exact (cmp_orders k).tri v v'
  obtain ⟨W0, hW0⟩ : ∃ W0, (w.alloc (.cells #[.int .i64 v.k, .bool v.b, .int .i64 v.i, .string (bs v.s), .slice B1 v.l.length e1, .slice B2 v.o.length e2] 26)).alloc (.cells #[.int .i64 v'.k, .bool v'.b, .int .i64 v'.i, .string (bs v'.s), .slice B3 v'.l.length e3, .slice B4 v'.o.length e4] 26) = W0 := ⟨_, rfl⟩
  have b0 : Below w.heap.size w W0 := by rw [← hW0]; exact ((Below.refl _ w).alloc (Nat.le_refl _) _).alloc (by simp) _
  have z0 : W0.heap.size = w.heap.size + 2 := by rw [← hW0]; simp
  have c1 : ∀ W, Below W0.heap.size W0 W → Calls Tryd.prog 16 _ W _ := fun W hW => (compare_any k _ _ v v' W (h.then (bthen b0 hW)) (h'.then (bthen b0 hW))).mono (R' := fun e w' => e = .returned (.int .i64 (cmp k v v')) ∧ Below W0.heap.size W0 w') fun e w' ⟨he, hb⟩ => ⟨he, bthen hW hb⟩
  have c2 : ∀ W, Below W0.heap.size W0 W → Calls Tryd.prog 14 _ W _ := fun W hW => (refCompare_any k _ _ v v' W (h.then (bthen b0 hW)) (h'.then (bthen b0 hW))).mono (R' := fun e w' => e = .returned (.int .i64 (cmp k v v')) ∧ Below W0.heap.size W0 w') fun e w' ⟨he, hb⟩ => ⟨he, bthen hW hb⟩
  have c4 : ∀ W, Below W0.heap.size W0 W → Calls Tryd.prog 17 _ W _ := fun W hW => (same_val k _ _ v v' W (h.then (bthen b0 hW)) (h'.then (bthen b0 hW))).mono (R' := fun e w' => e = .returned (.bool (cmp k v v' == 0)) ∧ Below W0.heap.size W0 w') fun e w' ⟨he, hb⟩ => ⟨he, bthen hW hb⟩
  have c3 : ∀ W, Below W0.heap.size W0 W → Calls Tryd.prog 13 #[] W _ := fun W hW => (valKnown_any W (tabs_below hT (bthen b0 hW))).mono (R' := fun e w' => e = .returned (.bool true) ∧ Below W0.heap.size W0 w') fun e w' ⟨he, hb⟩ => ⟨he, bthen hW hb⟩
  rw [← hr] at c1 c2 c4
  have C1 := Lib.hid c1
  have C2 := Lib.hid c2
  have C3 := Lib.hid c3
  have C4 := Lib.hid c4
  have hbox : Hid (∀ W, Below W0.heap.size W0 W → _) := fun W hW => by
    rw [z0, ← hW0] at hW
    exact box66 hW
  have hfin : Hid (∀ W, Below W0.heap.size W0 W → Below w.heap.size w W) := fun W hW => bthen b0 hW
  have hb := Below.refl W0.heap.size W0
  obtain ⟨⟨q0, q1, q2, q3, q4, q5⟩, p0, p1, p2, p3, p4, p5⟩ := hbox.out W0 hb
  have HW0 := Lib.hid hW0
  clear c1 c2 c3 c4 hr h h' hW0 b0 z0 hT
  go_enter Tryd.func4, Tryd.ntmps4
  go_wp2_with fail
  rw [HW0.out]
  go_wp2_with fail
  ((with_reducible refine (C2.out _ hb).mono ?_); rintro e w1 ⟨rfl, b1⟩)
  clear q0 q1 q2 q3 q4 q5 p0 p1 p2 p3 p4 p5
  obtain ⟨⟨q0, q1, q2, q3, q4, q5⟩, p0, p1, p2, p3, p4, p5⟩ := hbox.out _ b1
  go_wp2_with fail
  ((with_reducible refine (C1.out _ b1).mono ?_); rintro e w2 ⟨rfl, b2⟩)
  go_wp2_with fail
  ((with_reducible refine (sign_any r _ hr3).mono ?_); rintro e w3 ⟨rfl, rfl⟩)
  clear q0 q1 q2 q3 q4 q5 p0 p1 p2 p3 p4 p5
  obtain ⟨⟨q0, q1, q2, q3, q4, q5⟩, p0, p1, p2, p3, p4, p5⟩ := hbox.out _ b2
  go_wp2_with fail
  ((with_reducible refine (C4.out _ b2).mono ?_); rintro e w4 ⟨rfl, b4⟩)
  go_wp2_with fail
  ((with_reducible refine (C3.out _ b4).mono ?_); rintro e w5 ⟨rfl, b5⟩)
  go_wp2
  go_ret
  exact ⟨rfl, hfin.out _ b5⟩
end Go.Proofs.YthaikagelloeoaaDoor
