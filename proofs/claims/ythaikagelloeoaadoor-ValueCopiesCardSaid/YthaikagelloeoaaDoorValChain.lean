import Derived.Test.YthaikagelloeoaaDoorValLaws2
namespace Go.Proofs.YthaikagelloeoaaDoor
open Go.RowKit Val

/-- Three boxes of values, behind what came. -/
theorem box666 {w w1 : World} {a b c d e f a' b' c' d' e' f' a2 b2 c2 d2 e2 f2 : Value} {t : TypeId} (hb : Below (w.heap.size + 3) (((w.alloc (.cells #[a, b, c, d, e, f] t)).alloc (.cells #[a', b', c', d', e', f'] t)).alloc (.cells #[a2, b2, c2, d2, e2, f2] t)) w1) :
    w1.cell? ⟨w.heap.size, 0, none⟩ = some a ∧ w1.cell? ⟨w.heap.size, 1, none⟩ = some b ∧ w1.cell? ⟨w.heap.size, 2, none⟩ = some c ∧ w1.cell? ⟨w.heap.size, 3, none⟩ = some d ∧ w1.cell? ⟨w.heap.size, 4, none⟩ = some e ∧ w1.cell? ⟨w.heap.size, 5, none⟩ = some f ∧
    w1.cell? ⟨w.heap.size + 1, 0, none⟩ = some a' ∧ w1.cell? ⟨w.heap.size + 1, 1, none⟩ = some b' ∧ w1.cell? ⟨w.heap.size + 1, 2, none⟩ = some c' ∧ w1.cell? ⟨w.heap.size + 1, 3, none⟩ = some d' ∧ w1.cell? ⟨w.heap.size + 1, 4, none⟩ = some e' ∧ w1.cell? ⟨w.heap.size + 1, 5, none⟩ = some f' ∧
    w1.cell? ⟨w.heap.size + 2, 0, none⟩ = some a2 ∧ w1.cell? ⟨w.heap.size + 2, 1, none⟩ = some b2 ∧ w1.cell? ⟨w.heap.size + 2, 2, none⟩ = some c2 ∧ w1.cell? ⟨w.heap.size + 2, 3, none⟩ = some d2 ∧ w1.cell? ⟨w.heap.size + 2, 4, none⟩ = some e2 ∧ w1.cell? ⟨w.heap.size + 2, 5, none⟩ = some f2 := by
  have hs : (w.alloc (.cells #[a, b, c, d, e, f] t)).heap.size = w.heap.size + 1 := World.size_alloc _ _
  have hs2 : ((w.alloc (.cells #[a, b, c, d, e, f] t)).alloc (.cells #[a', b', c', d', e', f'] t)).heap.size = w.heap.size + 2 := by rw [World.size_alloc, hs]
  have h2 : w1.heap[w.heap.size + 2]? = some (.cells #[a2, b2, c2, d2, e2, f2] t (0, 0)) := by
    rw [hb.block (w.heap.size + 2) (by omega), ← hs2]; exact heap_alloc_new _ _
  have hk : ∀ g, g < w.heap.size + 2 → w1.heap[g]? = ((w.alloc (.cells #[a, b, c, d, e, f] t)).alloc (.cells #[a', b', c', d', e', f'] t)).heap[g]? := fun g hg => by
    rw [hb.block g (by omega)]
    exact ((Below.refl _ _).alloc (B := w.heap.size + 2) (by omega) (.cells #[a2, b2, c2, d2, e2, f2] t)).block g hg
  have h : w1.heap[w.heap.size]? = some (.cells #[a, b, c, d, e, f] t (0, 0)) := (hk _ (by omega)).trans (heap_alloc2_old w _ _)
  have h' : w1.heap[w.heap.size + 1]? = some (.cells #[a', b', c', d', e', f'] t (0, 0)) := (hk _ (by omega)).trans (heap_alloc2_new w _ _)
  refine ⟨?_, ?_, ?_, ?_, ?_, ?_, ?_, ?_, ?_, ?_, ?_, ?_, ?_, ?_, ?_, ?_, ?_, ?_⟩
  · rw [cell_of_row _ _ 0 _ t (0, 0) h]; rfl
  · rw [cell_of_row _ _ 1 _ t (0, 0) h]; rfl
  · rw [cell_of_row _ _ 2 _ t (0, 0) h]; rfl
  · rw [cell_of_row _ _ 3 _ t (0, 0) h]; rfl
  · rw [cell_of_row _ _ 4 _ t (0, 0) h]; rfl
  · rw [cell_of_row _ _ 5 _ t (0, 0) h]; rfl
  · rw [cell_of_row _ _ 0 _ t (0, 0) h']; rfl
  · rw [cell_of_row _ _ 1 _ t (0, 0) h']; rfl
  · rw [cell_of_row _ _ 2 _ t (0, 0) h']; rfl
  · rw [cell_of_row _ _ 3 _ t (0, 0) h']; rfl
  · rw [cell_of_row _ _ 4 _ t (0, 0) h']; rfl
  · rw [cell_of_row _ _ 5 _ t (0, 0) h']; rfl
  · rw [cell_of_row _ _ 0 _ t (0, 0) h2]; rfl
  · rw [cell_of_row _ _ 1 _ t (0, 0) h2]; rfl
  · rw [cell_of_row _ _ 2 _ t (0, 0) h2]; rfl
  · rw [cell_of_row _ _ 3 _ t (0, 0) h2]; rfl
  · rw [cell_of_row _ _ 4 _ t (0, 0) h2]; rfl
  · rw [cell_of_row _ _ 5 _ t (0, 0) h2]; rfl

set_option maxRecDepth 100000 in
set_option maxHeartbeats 8000000 in
theorem valChain_walk (n : Nat) (cs : List Value) (v : Val) (m : Nat) (cs' : List Value) (v' : Val) (o : Nat) (cs2 : List Value) (v2 : Val) (w : World) (hT : Tabs w) (h : VIn w w.heap.size n cs v) (h' : VIn w w.heap.size m cs' v') (h2 : VIn w w.heap.size o cs2 v2) :
    Calls Tryd.prog 5 #[.agg cs.toArray, .agg cs'.toArray, .agg cs2.toArray] w fun e w' => e = .returned (.bool true) ∧ Below w.heap.size w w' := by
  obtain ⟨k, hk1, hk2, hk3⟩ : ∃ k, n ≤ k ∧ m ≤ k ∧ o ≤ k := ⟨n + m + o, by omega, by omega, by omega⟩
  have h := h.mono hk1
  have h' := h'.mono hk2
  have h2 := h2.mono hk3
  clear hk1 hk2 hk3
  obtain ⟨_, B1, e1, B2, e2, -, rfl, -⟩ := h.open
  obtain ⟨_, B3, e3, B4, e4, -, rfl, -⟩ := h'.open
  obtain ⟨_, B5, e5, B6, e6, -, rfl, -⟩ := h2.open
  obtain ⟨W0, hW0⟩ : ∃ W0, ((w.alloc (.cells #[.int .i64 v.k, .bool v.b, .int .i64 v.i, .string (bs v.s), .slice B1 v.l.length e1, .slice B2 v.o.length e2] 26)).alloc (.cells #[.int .i64 v'.k, .bool v'.b, .int .i64 v'.i, .string (bs v'.s), .slice B3 v'.l.length e3, .slice B4 v'.o.length e4] 26)).alloc (.cells #[.int .i64 v2.k, .bool v2.b, .int .i64 v2.i, .string (bs v2.s), .slice B5 v2.l.length e5, .slice B6 v2.o.length e6] 26) = W0 := ⟨_, rfl⟩
  have b0 : Below w.heap.size w W0 := by rw [← hW0]; exact (((Below.refl _ w).alloc (Nat.le_refl _) _).alloc (by simp) _).alloc (by simp; omega) _
  have z0 : W0.heap.size = w.heap.size + 3 := by rw [← hW0]; simp
  have cc : ∀ (x y : Val) (ax ay : List Value), VIn w w.heap.size k ax x → VIn w w.heap.size k ay y → ∀ r, cmp k x y = r → ∀ W, Below W0.heap.size W0 W → Calls Tryd.prog 16 #[.agg ax.toArray, .agg ay.toArray] W fun e w' => e = .returned (.int .i64 r) ∧ Below W0.heap.size W0 w' := fun x y ax ay hx hy r hr W hW =>
    (compare_any k _ _ x y W (hx.then (bthen b0 hW)) (hy.then (bthen b0 hW))).mono fun e w' ⟨he, hb⟩ => ⟨by rw [he, hr], bthen hW hb⟩
  have c4 : ∀ r, cmp k v v' = r → ∀ W, Below W0.heap.size W0 W → Calls Tryd.prog 17 _ W _ := fun r hr W hW => (same_val k _ _ v v' W (h.then (bthen b0 hW)) (h'.then (bthen b0 hW))).mono (R' := fun e w' => e = .returned (.bool (r == 0)) ∧ Below W0.heap.size W0 w') fun e w' ⟨he, hb⟩ => ⟨by rw [he, hr], bthen hW hb⟩
  have c3 : ∀ W, Below W0.heap.size W0 W → Calls Tryd.prog 13 #[] W _ := fun W hW => (valKnown_any W (tabs_below hT (bthen b0 hW))).mono (R' := fun e w' => e = .returned (.bool true) ∧ Below W0.heap.size W0 w') fun e w' ⟨he, hb⟩ => ⟨he, bthen hW hb⟩
  have O := cmp_orders k
  obtain ⟨r1, hr1⟩ : ∃ r, cmp k v v' = r := ⟨_, rfl⟩
  obtain ⟨r2, hr2⟩ : ∃ r, cmp k v' v2 = r := ⟨_, rfl⟩
  obtain ⟨r3, hr3⟩ : ∃ r, cmp k v v2 = r := ⟨_, rfl⟩
  have t1 : r1 = -1 ∨ r1 = 0 ∨ r1 = 1 := by rw [← hr1]; exact O.tri _ _
  have t2 : r2 = -1 ∨ r2 = 0 ∨ r2 = 1 := by rw [← hr2]; exact O.tri _ _
  have t3 : r3 = -1 ∨ r3 = 0 ∨ r3 = 1 := by rw [← hr3]; exact O.tri _ _
  have u1 : r1 ≤ 0 → r2 ≤ 0 → r3 ≤ 0 ∧ (r3 = 0 → r1 = 0 ∧ r2 = 0) := by rw [← hr1, ← hr2, ← hr3]; exact O.trans _ _ _
  have u2 : -r2 ≤ 0 → -r1 ≤ 0 → -r3 ≤ 0 ∧ (-r3 = 0 → -r2 = 0 ∧ -r1 = 0) := by rw [← hr1, ← hr2, ← hr3, ← O.turn, ← O.turn, ← O.turn]; exact O.trans _ _ _
  have C12 := Lib.hid (cc v v' _ _ h h' r1 hr1)
  have C23 := Lib.hid (cc v' v2 _ _ h' h2 r2 hr2)
  have C13 := Lib.hid (cc v v2 _ _ h h2 r3 hr3)
  obtain ⟨s1, hs1⟩ : ∃ s, s = -r1 := ⟨_, rfl⟩
  have C21 := Lib.hid (cc v' v _ _ h' h s1 (by rw [O.turn, hr1, hs1]))
  have S1 := Lib.hid hs1
  have C11 := Lib.hid (cc v v _ _ h h 0 (O.self v))
  have C3 := Lib.hid c3
  have C4 := Lib.hid (c4 r1 hr1)
  have hbox : Hid (∀ W, Below W0.heap.size W0 W → _) := fun W hW => by
    rw [z0, ← hW0] at hW
    exact box666 hW
  have hfin : Hid (∀ W, Below W0.heap.size W0 W → Below w.heap.size w W) := fun W hW => bthen b0 hW
  have hb := Below.refl W0.heap.size W0
  obtain ⟨q0, q1, q2, q3, q4, q5, p0, p1, p2, p3, p4, p5, o0, o1, o2, o3, o4, o5⟩ := hbox.out W0 hb
  have HW0 := Lib.hid hW0
  have T1 := Lib.hid t1
  have T2 := Lib.hid t2
  have T3 := Lib.hid t3
  have U1 := Lib.hid u1
  have U2 := Lib.hid u2
  clear hs1 cc c3 c4 hr1 hr2 hr3 h h' h2 hW0 b0 z0 hT O t1 t2 t3 u1 u2
  go_enter Tryd.func5, Tryd.ntmps5
  go_wp2_with fail
  rw [HW0.out]
  go_region_held3 (fun w' => w'.cell? ⟨w.heap.size, 0, none⟩ = some (.int .i64 v.k) ∧ w'.cell? ⟨w.heap.size, 1, none⟩ = some (.bool v.b) ∧ w'.cell? ⟨w.heap.size, 2, none⟩ = some (.int .i64 v.i) ∧ w'.cell? ⟨w.heap.size, 3, none⟩ = some (.string (bs v.s)) ∧ w'.cell? ⟨w.heap.size, 4, none⟩ = some (.slice B1 v.l.length e1) ∧ w'.cell? ⟨w.heap.size, 5, none⟩ = some (.slice B2 v.o.length e2) ∧
      w'.cell? ⟨w.heap.size + 1, 0, none⟩ = some (.int .i64 v'.k) ∧ w'.cell? ⟨w.heap.size + 1, 1, none⟩ = some (.bool v'.b) ∧ w'.cell? ⟨w.heap.size + 1, 2, none⟩ = some (.int .i64 v'.i) ∧ w'.cell? ⟨w.heap.size + 1, 3, none⟩ = some (.string (bs v'.s)) ∧ w'.cell? ⟨w.heap.size + 1, 4, none⟩ = some (.slice B3 v'.l.length e3) ∧ w'.cell? ⟨w.heap.size + 1, 5, none⟩ = some (.slice B4 v'.o.length e4) ∧
      w'.cell? ⟨w.heap.size + 2, 0, none⟩ = some (.int .i64 v2.k) ∧ w'.cell? ⟨w.heap.size + 2, 1, none⟩ = some (.bool v2.b) ∧ w'.cell? ⟨w.heap.size + 2, 2, none⟩ = some (.int .i64 v2.i) ∧ w'.cell? ⟨w.heap.size + 2, 3, none⟩ = some (.string (bs v2.s)) ∧ w'.cell? ⟨w.heap.size + 2, 4, none⟩ = some (.slice B5 v2.l.length e5) ∧ w'.cell? ⟨w.heap.size + 2, 5, none⟩ = some (.slice B6 v2.o.length e6))
    (first | exact hbox.out _ (by assumption) | exact hbox.out _ (Below.drew (by assumption)))
    (first
      | (go_at_call 16; (with_reducible refine (C12.out _ (by first | assumption | exact Below.drew (by assumption))).mono ?_); rintro e wa ⟨rfl, hb1⟩)
      | (go_at_call 16; (with_reducible refine (C23.out _ (by first | assumption | exact Below.drew (by assumption))).mono ?_); rintro e wb ⟨rfl, hb2⟩)
      | (go_at_call 16; (with_reducible refine (C13.out _ (by first | assumption | exact Below.drew (by assumption))).mono ?_); rintro e wc ⟨rfl, hb3⟩)
      | (go_at_call 15; (with_reducible refine (sign_any _ _ T1.out).mono ?_); rintro e wd ⟨rfl, rfl⟩)
      | (go_at_call 15; (with_reducible refine (sign_any _ _ T2.out).mono ?_); rintro e wd ⟨rfl, rfl⟩)
      | (go_at_call 15; (with_reducible refine (sign_any _ _ T3.out).mono ?_); rintro e wd ⟨rfl, rfl⟩))
  have U : (r1 = -1 ∧ s1 = 1 ∨ r1 = 0 ∧ s1 = 0 ∨ r1 = 1 ∧ s1 = -1) := by have := S1.out; have := T1.out; omega
  have V2 := T2.out
  have V3 := T3.out
  have a1 := U1.out
  have a2 := U2.out
  clear C12 C23 C13 T1 T2 T3 U1 U2 S1 hb hb1 hb2
  rcases U with ⟨rfl, rfl⟩ | ⟨rfl, rfl⟩ | ⟨rfl, rfl⟩ <;> rcases V2 with rfl | rfl | rfl <;> rcases V3 with rfl | rfl | rfl
  all_goals first
    | (exfalso; omega)
    | (clear a1 a2 q0 q1 q2 q3 q4 q5 p0 p1 p2 p3 p4 p5 o0 o1 o2 o3 o4 o5
       obtain ⟨q0, q1, q2, q3, q4, q5, p0, p1, p2, p3, p4, p5, -⟩ := hbox.out _ hb3
       go_wp2_with fail
       ((with_reducible refine (C21.out _ hb3).mono ?_); rintro e w4 ⟨rfl, b4⟩)
       clear q0 q1 q2 q3 q4 q5 p0 p1 p2 p3 p4 p5
       obtain ⟨q0, q1, q2, q3, q4, q5, p0, p1, p2, p3, p4, p5, -⟩ := hbox.out _ b4
       go_wp2_with fail
       ((with_reducible refine (sign_any _ _ (by decide)).mono ?_); rintro e w5 ⟨rfl, rfl⟩)
       go_wp2_with fail
       ((with_reducible refine (C11.out _ b4).mono ?_); rintro e w6 ⟨rfl, b6⟩)
       clear q0 q1 q2 q3 q4 q5 p0 p1 p2 p3 p4 p5
       obtain ⟨q0, q1, q2, q3, q4, q5, p0, p1, p2, p3, p4, p5, -⟩ := hbox.out _ b6
       go_wp2_with fail
       ((with_reducible refine (C4.out _ b6).mono ?_); rintro e w7 ⟨rfl, b7⟩)
       go_wp2_with fail
       ((with_reducible refine (C3.out _ b7).mono ?_); rintro e w8 ⟨rfl, b8⟩)
       go_wp2
       go_ret
       exact ⟨rfl, hfin.out _ b8⟩)
end Go.Proofs.YthaikagelloeoaaDoor
