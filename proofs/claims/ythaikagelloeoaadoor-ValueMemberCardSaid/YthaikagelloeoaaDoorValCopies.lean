import Derived.Test.YthaikagelloeoaaDoorValSpoil
import Derived.Test.YthaikagelloeoaaDoorValEqual
import Derived.Test.YthaikagelloeoaaDoorValCopyR
import Derived.Test.YthaikagelloeoaaDoorValLaws
namespace Go.Proofs.YthaikagelloeoaaDoor
open Go.RowKit Val
set_option linter.unusedSimpArgs false
set_option linter.unusedVariables false

theorem Sim.below {S : Nat → Prop} {w w' : World} {B : Nat} (h : Sim S w w') (hB : B ≤ w.heap.size) (hS : ∀ g, S g → B ≤ g) : Below B w w' :=
  ⟨h.os, h.tape, h.output, h.size, fun k hk => h.block k (by omega) fun hs => by have := hS k hs; omega⟩
theorem Sim.same {S S' : Nat → Prop} {w w' : World} (h : Sim S w w') (hS : ∀ g, S' g → ¬ S g ∧ g < w.heap.size) : SameAt S' w w' :=
  fun p hp => ⟨World.cell?_of_block (h.block p.block (hS _ hp).2 (hS _ hp).1), World.frozen?_of_block (h.block p.block (hS _ hp).2 (hS _ hp).1)⟩
/-- Six cells of a block. -/
def Six (w : World) (g : Nat) (cs : List Value) : Prop := w.rangeAt g 0 cs
theorem six_new {w w1 : World} {a b c d e f : Value} {t : TypeId} (hb : Below (w.heap.size + 1) (w.alloc (.cells #[a, b, c, d, e, f] t)) w1) : w1.rangeAt w.heap.size 0 [a, b, c, d, e, f] := by
  have h : w1.heap[w.heap.size]? = some (.cells #[a, b, c, d, e, f] t (0, 0)) := (hb.block w.heap.size (by simp)).trans (heap_alloc_new w _)
  intro i u hu
  rw [cell_of_row _ _ _ _ t (0, 0) h, Nat.zero_add, ← Array.getElem?_toList]
  exact hu

theorem row6 {W : World} {g : Nat} {a b c d e f : Value} {t : TypeId} (h : W.heap[g]? = some (.cells #[a, b, c, d, e, f] t (0, 0))) :
    W.cell? ⟨g, 0, none⟩ = some a ∧ W.cell? ⟨g, 1, none⟩ = some b ∧ W.cell? ⟨g, 2, none⟩ = some c ∧ W.cell? ⟨g, 3, none⟩ = some d ∧ W.cell? ⟨g, 4, none⟩ = some e ∧ W.cell? ⟨g, 5, none⟩ = some f :=
  ⟨by rw [cell_of_row _ _ 0 _ t (0, 0) h]; rfl, by rw [cell_of_row _ _ 1 _ t (0, 0) h]; rfl, by rw [cell_of_row _ _ 2 _ t (0, 0) h]; rfl, by rw [cell_of_row _ _ 3 _ t (0, 0) h]; rfl, by rw [cell_of_row _ _ 4 _ t (0, 0) h]; rfl, by rw [cell_of_row _ _ 5 _ t (0, 0) h]; rfl⟩

set_option maxRecDepth 100000 in
set_option maxHeartbeats 8000000 in
theorem valCopies_walk (n : Nat) (cs : List Value) (v : Val) (w : World) (hT : Tabs w) (h : VIn w w.heap.size n cs v) (hf : Fit n v) :
    Calls Tryd.prog 6 #[.agg cs.toArray] w fun e w' => e = .returned (.bool true) ∧ Below w.heap.size w w' := by
  obtain ⟨_, B1, e1, B2, e2, -, rfl, -⟩ := h.open
  obtain ⟨W0, hW0⟩ : ∃ W0, w.alloc (.cells #[.int .i64 v.k, .bool v.b, .int .i64 v.i, .string (bs v.s), .slice B1 v.l.length e1, .slice B2 v.o.length e2] 26) = W0 := ⟨_, rfl⟩
  have b0 : Below w.heap.size w W0 := by rw [← hW0]; exact (Below.refl _ w).alloc (Nat.le_refl _) _
  have z0 : W0.heap.size = w.heap.size + 1 := by rw [← hW0]; exact World.size_alloc _ _
  have c1 := fun W (hW : Below W0.heap.size W0 W) => refCopy_any n _ v W (h.then (bthen b0 hW)) hf
  have c3 := fun W (hW : Below W0.heap.size W0 W) => valKnown_any W (tabs_below hT (bthen b0 hW))
  have HV := Lib.hid fun W (hW : Below W0.heap.size W0 W) => h.then (bthen b0 hW)
  have HF := Lib.hid hf
  have C1 := Lib.hid c1
  have C3 := Lib.hid c3
  have hbox : Hid (∀ W, Below W0.heap.size W0 W → _) := fun W hW => by
    rw [z0, ← hW0] at hW
    exact box6 hW
  have hfin : Hid (∀ W, Below W0.heap.size W0 W → Below w.heap.size w W) := fun W hW => bthen b0 hW
  have k0 := Below.refl W0.heap.size W0
  obtain ⟨q0, q1, q2, q3, q4, q5⟩ := hbox.out W0 k0
  have HW0 := Lib.hid hW0
  clear c1 c3 h hf hW0 b0 z0 hT
  go_enter Tryd.func6, Tryd.ntmps6
  go_wp2_with fail
  rw [HW0.out]
  -- a
  ((with_reducible refine (C1.out _ k0).mono ?_); rintro e w1 ⟨ca, rfl, hva, b1⟩)
  obtain ⟨_, A1, a1, A2, a2, -, rfl⟩ := hva.open
  have k1 := bthen k0 b1
  obtain ⟨W1, hW1⟩ : ∃ W', w1.alloc (.cells #[.int .i64 v.k, .bool v.b, .int .i64 v.i, .string (bs v.s), .slice A1 v.l.length a1, .slice A2 v.o.length a2] 26) = W' := ⟨_, rfl⟩
  have zz1 : W1.heap.size = w1.heap.size + 1 := by rw [← hW1]; exact World.size_alloc _ _
  have g1 : W1.heap[w1.heap.size]? = some (.cells #[.int .i64 v.k, .bool v.b, .int .i64 v.i, .string (bs v.s), .slice A1 v.l.length a1, .slice A2 v.o.length a2] 26 (0, 0)) := by rw [← hW1]; exact heap_alloc_new _ _
  have d1 : Below w1.heap.size w1 W1 := by rw [← hW1]; exact (Below.refl _ _).alloc (Nat.le_refl _) _
  have HW1 := Lib.hid hW1
  have k1' := bthen k1 d1
  have va1 : VO W1 (Span W0.heap.size w1.heap.size none) n _ v := hva.keep (fun _ hg => hg) (SameAt.below d1 fun _ hg => hg.2.1)
  have C2 := Lib.hid (copy_any n _ v W1 (va1.vin fun _ hg => by have := hg.2.1; omega) HF.out)
  have HA := Lib.hid va1
  have G1 := Lib.hid g1
  clear q0 q1 q2 q3 q4 q5 hva hW1 g1 d1 va1 b1
  go_wp2_with fail
  rw [HW1.out]
  -- b
  ((with_reducible refine C2.out.mono ?_); rintro e w2 ⟨cb, rfl, hvb, b2⟩)
  obtain ⟨_, A3, a3, A4, a4, -, rfl⟩ := hvb.open
  have k2 := bthen k1' b2
  obtain ⟨W2, hW2⟩ : ∃ W', w2.alloc (.cells #[.int .i64 v.k, .bool v.b, .int .i64 v.i, .string (bs v.s), .slice A3 v.l.length a3, .slice A4 v.o.length a4] 26) = W' := ⟨_, rfl⟩
  have zz2 : W2.heap.size = w2.heap.size + 1 := by rw [← hW2]; exact World.size_alloc _ _
  have g2 : W2.heap[w2.heap.size]? = some (.cells #[.int .i64 v.k, .bool v.b, .int .i64 v.i, .string (bs v.s), .slice A3 v.l.length a3, .slice A4 v.o.length a4] 26 (0, 0)) := by rw [← hW2]; exact heap_alloc_new _ _
  have d2 : Below w2.heap.size w2 W2 := by rw [← hW2]; exact (Below.refl _ _).alloc (Nat.le_refl _) _
  have HW2 := Lib.hid hW2
  have k2' := bthen k2 d2
  have h12 := bthen b2 d2
  have HB := Lib.hid (show VO W2 (Span W1.heap.size w2.heap.size none) n _ v from hvb.keep (fun _ hg => hg) (SameAt.below d2 fun _ hg => hg.2.1))
  have HA2 := Lib.hid (show VO W2 (Span W0.heap.size w1.heap.size none) n _ v from HA.out.keep (fun _ hg => hg) (SameAt.below h12 fun _ hg => by have := hg.2.1; omega))
  have s2 := b2.size
  have s1 := k1.size
  have G12 := Lib.hid (row_keep h12 G1.out)
  have G2 := Lib.hid g2
  have ra := row6 G12.out
  obtain ⟨p0, p1, p2, p3, p4, p5⟩ := ra
  obtain ⟨q0, q1, q2, q3, q4, q5⟩ := hbox.out W2 k2'
  have E1 := Lib.hid (refEqual_any n _ _ v W2 (HA2.out.vin fun _ hg => by have := hg.2.1; omega) (HV.out W2 k2'))
  clear hvb hW2 g2 d2 C2 HA G1
  rw [← HW2.out] at p0 p1 p2 p3 p4 p5 q0 q1 q2 q3 q4 q5
  go_wp2_with fail
  rw [HW2.out]
  ((with_reducible refine E1.out.mono ?_); rintro e w3 ⟨rfl, b3⟩)
  have k3 := bthen k2' b3
  have HB3 := Lib.hid (HB.out.keep (fun _ hg => hg) (SameAt.below b3 fun _ hg => by have := hg.2.1; omega))
  have HA3 := Lib.hid (HA2.out.keep (fun _ hg => hg) (SameAt.below b3 fun _ hg => by have := hg.2.1; omega))
  have G13 := Lib.hid (row_keep b3 G12.out)
  have G23 := Lib.hid (row_keep b3 G2.out)
  have s3 := b3.size
  clear p0 p1 p2 p3 p4 p5 q0 q1 q2 q3 q4 q5 E1 HB HA2 G12 G2 b3
  obtain ⟨p0, p1, p2, p3, p4, p5⟩ := row6 G23.out
  obtain ⟨q0, q1, q2, q3, q4, q5⟩ := hbox.out w3 k3
  have E2 := Lib.hid (refEqual_any n _ _ v w3 (HB3.out.vin fun _ hg => by have := hg.2.1; omega) (HV.out w3 k3))
  go_wp2_with fail
  ((with_reducible refine E2.out.mono ?_); rintro e w4 ⟨rfl, b4⟩)
  have k4 := bthen k3 b4
  have HB4 := Lib.hid (HB3.out.keep (fun _ hg => hg) (SameAt.below b4 fun _ hg => by have := hg.2.1; omega))
  have HA4 := Lib.hid (HA3.out.keep (fun _ hg => hg) (SameAt.below b4 fun _ hg => by have := hg.2.1; omega))
  have G14 := Lib.hid (row_keep b4 G13.out)
  have G24 := Lib.hid (row_keep b4 G23.out)
  have s4 := b4.size
  have P1 := Lib.hid (spoil_any (Span W0.heap.size w1.heap.size none) n _ v w1.heap.size 0 w4 HA4.out (range_of_row G14.out 0 _ (fun i u hu => by rw [Nat.zero_add, ← Array.getElem?_toList]; exact hu)))
  clear p0 p1 p2 p3 p4 p5 q0 q1 q2 q3 q4 q5 E2 HB3 HA3 G13 G23 b4
  go_wp2_with fail
  ((with_reducible refine P1.out.mono ?_); rintro e w5 ⟨rfl, h5⟩)
  have b5 : Below W0.heap.size w4 w5 := h5.below k4.size fun _ hg => hg.1
  have k5 := k4.trans b5
  have HB5 := Lib.hid (HB4.out.keep (fun _ hg => hg) (h5.same fun g hg => ⟨fun h => by have := h.2.1; have := hg.1; omega, by have := hg.2.1; omega⟩))
  have G25 := Lib.hid ((h5.block w2.heap.size (by omega) (fun h => by have := h.2.1; omega)).trans G24.out)
  have s5 := h5.size
  obtain ⟨p0, p1, p2, p3, p4, p5⟩ := row6 G25.out
  obtain ⟨q0, q1, q2, q3, q4, q5⟩ := hbox.out w5 k5
  have E3 := Lib.hid (refEqual_any n _ _ v w5 (HB5.out.vin fun _ hg => by have := hg.2.1; omega) (HV.out w5 k5))
  clear h5 b5 P1 HB4 HA4 G14 G24
  go_wp2_with fail
  ((with_reducible refine E3.out.mono ?_); rintro e w6 ⟨rfl, b6⟩)
  have k6 := bthen k5 b6
  clear p0 p1 p2 p3 p4 p5 q0 q1 q2 q3 q4 q5 E3 HB5 G25 b6 s1 s2 s3 s4 s5 zz1 zz2
  obtain ⟨q0, q1, q2, q3, q4, q5⟩ := hbox.out w6 k6
  go_wp2_with fail
  -- c
  ((with_reducible refine (C1.out _ k6).mono ?_); rintro e w7 ⟨cc, rfl, hvc, b7⟩)
  obtain ⟨_, A5, a5, A6, a6, -, rfl⟩ := hvc.open
  have k7 := bthen k6 b7
  have s7 := k6.size
  have s7' := b7.size
  obtain ⟨W7, hW3⟩ : ∃ W', w7.alloc (.cells #[.int .i64 v.k, .bool v.b, .int .i64 v.i, .string (bs v.s), .slice A5 v.l.length a5, .slice A6 v.o.length a6] 26) = W' := ⟨_, rfl⟩
  have zz3 : W7.heap.size = w7.heap.size + 1 := by rw [← hW3]; exact World.size_alloc _ _
  have g3 : W7.heap[w7.heap.size]? = some (.cells #[.int .i64 v.k, .bool v.b, .int .i64 v.i, .string (bs v.s), .slice A5 v.l.length a5, .slice A6 v.o.length a6] 26 (0, 0)) := by rw [← hW3]; exact heap_alloc_new _ _
  have d3 : Below w7.heap.size w7 W7 := by rw [← hW3]; exact (Below.refl _ _).alloc (Nat.le_refl _) _
  have HW3 := Lib.hid hW3
  have k7' := bthen k7 d3
  have vc1 : VO W7 (Span w6.heap.size w7.heap.size none) n _ v := hvc.keep (fun _ hg => hg) (SameAt.below d3 fun _ hg => hg.2.1)
  have C2 := Lib.hid (copy_any n _ v W7 (vc1.vin fun _ hg => by have := hg.2.1; omega) HF.out)
  have HC := Lib.hid vc1
  have G7 := Lib.hid g3
  clear q0 q1 q2 q3 q4 q5 hvc hW3 g3 d3 vc1 b7
  go_wp2_with fail
  rw [HW3.out]
  -- d
  ((with_reducible refine C2.out.mono ?_); rintro e w8 ⟨cd, rfl, hvd, b8⟩)
  obtain ⟨_, A7, a7, A8, a8, -, rfl⟩ := hvd.open
  have k8 := bthen k7' b8
  obtain ⟨W8, hW4⟩ : ∃ W', w8.alloc (.cells #[.int .i64 v.k, .bool v.b, .int .i64 v.i, .string (bs v.s), .slice A7 v.l.length a7, .slice A8 v.o.length a8] 26) = W' := ⟨_, rfl⟩
  have zz4 : W8.heap.size = w8.heap.size + 1 := by rw [← hW4]; exact World.size_alloc _ _
  have g4 : W8.heap[w8.heap.size]? = some (.cells #[.int .i64 v.k, .bool v.b, .int .i64 v.i, .string (bs v.s), .slice A7 v.l.length a7, .slice A8 v.o.length a8] 26 (0, 0)) := by rw [← hW4]; exact heap_alloc_new _ _
  have d4 : Below w8.heap.size w8 W8 := by rw [← hW4]; exact (Below.refl _ _).alloc (Nat.le_refl _) _
  have HW4 := Lib.hid hW4
  have k8' := bthen k8 d4
  have h78 := bthen b8 d4
  have s8 := b8.size
  have HD8 := Lib.hid (show VO W8 (Span W7.heap.size w8.heap.size none) n _ v from hvd.keep (fun _ hg => hg) (SameAt.below d4 fun _ hg => hg.2.1))
  have HC8 := Lib.hid (HC.out.keep (fun _ hg => hg) (SameAt.below h78 fun _ hg => by have := hg.2.1; omega))
  have G78 := Lib.hid (row_keep h78 G7.out)
  have P2 := Lib.hid (spoil_any (Span W7.heap.size w8.heap.size none) n _ v w8.heap.size 0 W8 HD8.out (range_of_row g4 0 _ (fun i u hu => by rw [Nat.zero_add, ← Array.getElem?_toList]; exact hu)))
  clear hvd hW4 g4 d4 C2 HC G7 b8 h78
  go_wp2_with fail
  rw [HW4.out]
  ((with_reducible refine P2.out.mono ?_); rintro e w9 ⟨rfl, h9⟩)
  have b9 : Below W0.heap.size W8 w9 := h9.below k8'.size fun _ hg => by have := hg.1; have := k7'.size; omega
  have k9 := k8'.trans b9
  have HC9 := Lib.hid (HC8.out.keep (fun _ hg => hg) (h9.same fun g hg => ⟨fun h => by have := h.1; have := hg.2.1; omega, by have := hg.2.1; omega⟩))
  have G79 := Lib.hid ((h9.block w7.heap.size (by omega) (fun h => by have := h.1; omega)).trans G78.out)
  have s9 := h9.size
  obtain ⟨p0, p1, p2, p3, p4, p5⟩ := row6 G79.out
  obtain ⟨q0, q1, q2, q3, q4, q5⟩ := hbox.out w9 k9
  have E4 := Lib.hid (refEqual_any n _ _ v w9 (HC9.out.vin fun _ hg => by have := hg.2.1; omega) (HV.out w9 k9))
  clear h9 b9 P2 HC8 HD8 G78
  go_wp2_with fail
  ((with_reducible refine E4.out.mono ?_); rintro e w10 ⟨rfl, b10⟩)
  have k10 := bthen k9 b10
  go_wp2_with fail
  ((with_reducible refine (C3.out _ k10).mono ?_); rintro e w11 ⟨rfl, b11⟩)
  have k11 := hfin.out _ (bthen k10 b11)
  go_wp2
  go_ret
  exact ⟨rfl, k11⟩
end Go.Proofs.YthaikagelloeoaaDoor
