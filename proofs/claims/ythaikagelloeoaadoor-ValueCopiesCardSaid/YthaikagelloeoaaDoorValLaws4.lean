import Derived.Test.YthaikagelloeoaaDoorValMember
import Derived.Test.YthaikagelloeoaaDoorValCopies
namespace Go.Proofs.YthaikagelloeoaaDoor
open Go.RowKit Val
set_option linter.unusedSimpArgs false
set_option linter.unusedVariables false

set_option maxRecDepth 100000 in
set_option maxHeartbeats 8000000 in
theorem valMember_core (n : Nat) (cs : List Value) (v : Val) (key : List UInt8) (w : World) (hT : Tabs w) (h : VIn w w.heap.size n cs v) (hf : Fit n v) :
    Calls Tryd.prog 10 #[.agg cs.toArray, .string (bs key)] w fun e w' => e = .returned (.bool true) ∧ Below w.heap.size w w' := by
  obtain ⟨n', B1, e1, B2, e2, rfl, rfl, -⟩ := h.open
  obtain ⟨n, hn⟩ : ∃ n, n' = n := ⟨_, rfl⟩
  subst hn
  obtain ⟨W0, hW0⟩ : ∃ W0, w.alloc (.cells #[.int .i64 v.k, .bool v.b, .int .i64 v.i, .string (bs v.s), .slice B1 v.l.length e1, .slice B2 v.o.length e2] 26) = W0 := ⟨_, rfl⟩
  have b0 : Below w.heap.size w W0 := by rw [← hW0]; exact (Below.refl _ w).alloc (Nat.le_refl _) _
  have z0 : W0.heap.size = w.heap.size + 1 := by rw [← hW0]; exact World.size_alloc _ _
  obtain ⟨x, r, hxr⟩ : ∃ x r, memS v key = (x, r) := ⟨_, _, rfl⟩
  have c1 := fun W (hW : Below W0.heap.size W0 W) => refCopy_any (n' + 1) _ v W (h.then (bthen b0 hW)) hf
  have c2 := fun W cs (hW : VIn W W.heap.size (n' + 1) cs v) => member_any n' cs v key W hW hf
  have c4 := fun W (hW : Below W0.heap.size W0 W) => refMember_any n' _ v key W (h.then (bthen b0 hW))
  have c3 := fun W (hW : Below W0.heap.size W0 W) => valKnown_any W (tabs_below hT (bthen b0 hW))
  have HV := Lib.hid fun W (hW : Below W0.heap.size W0 W) => h.then (bthen b0 hW)
  rw [hxr] at c2 c4
  have C1 := Lib.hid c1
  have C2 := Lib.hid c2
  have C3 := Lib.hid c3
  have C4 := Lib.hid c4
  have hbox : Hid (∀ W, Below W0.heap.size W0 W → _) := fun W hW => by
    rw [z0, ← hW0] at hW
    exact box6 hW
  have hfin : Hid (∀ W, Below W0.heap.size W0 W → Below w.heap.size w W) := fun W hW => bthen b0 hW
  have k0 := Below.refl W0.heap.size W0
  obtain ⟨q0, q1, q2, q3, q4, q5⟩ := hbox.out W0 k0
  have HW0 := Lib.hid hW0
  clear c1 c2 c3 c4 h hf hW0 b0 z0 hT hxr
  go_enter Tryd.func10, Tryd.ntmps10
  go_wp2_with fail
  rw [HW0.out]
  ((with_reducible refine (C1.out _ k0).mono ?_); rintro e w1 ⟨ca, rfl, hva, b1⟩)
  obtain ⟨_, A1, a1, A2, a2, -, rfl⟩ := hva.open
  have k1 := bthen k0 b1
  obtain ⟨W1, hW1⟩ : ∃ W', w1.alloc (.cells #[.int .i64 v.k, .bool v.b, .int .i64 v.i, .string (bs v.s), .slice A1 v.l.length a1, .slice A2 v.o.length a2] 26) = W' := ⟨_, rfl⟩
  have zz1 : W1.heap.size = w1.heap.size + 1 := by rw [← hW1]; exact World.size_alloc _ _
  have g1 : W1.heap[w1.heap.size]? = some (.cells #[.int .i64 v.k, .bool v.b, .int .i64 v.i, .string (bs v.s), .slice A1 v.l.length a1, .slice A2 v.o.length a2] 26 (0, 0)) := by rw [← hW1]; exact heap_alloc_new _ _
  have d1 : Below w1.heap.size w1 W1 := by rw [← hW1]; exact (Below.refl _ _).alloc (Nat.le_refl _) _
  have HW1 := Lib.hid hW1
  have k1' := bthen k1 d1
  have va1 : VO W1 (Span W0.heap.size w1.heap.size none) (n' + 1) _ v := hva.keep (fun _ hg => hg) (SameAt.below d1 fun _ hg => hg.2.1)
  have M1 := Lib.hid (C2.out W1 _ (va1.vin fun _ hg => by have := hg.2.1; omega))
  have HA := Lib.hid va1
  have G1 := Lib.hid g1
  have s1 := k1.size
  clear q0 q1 q2 q3 q4 q5 hva hW1 g1 d1 va1 b1
  go_wp2_with fail
  rw [HW1.out]
  ((with_reducible refine M1.out.mono ?_); rintro e w2 ⟨cm, rfl, hvm, b2⟩)
  obtain ⟨_, A3, a3, A4, a4, -, rfl⟩ := hvm.open
  have k2 := bthen k1' b2
  obtain ⟨W2, hW2⟩ : ∃ W', w2.alloc (.cells #[.int .i64 x.k, .bool x.b, .int .i64 x.i, .string (bs x.s), .slice A3 x.l.length a3, .slice A4 x.o.length a4] 26) = W' := ⟨_, rfl⟩
  have zz2 : W2.heap.size = w2.heap.size + 1 := by rw [← hW2]; exact World.size_alloc _ _
  have g2 : W2.heap[w2.heap.size]? = some (.cells #[.int .i64 x.k, .bool x.b, .int .i64 x.i, .string (bs x.s), .slice A3 x.l.length a3, .slice A4 x.o.length a4] 26 (0, 0)) := by rw [← hW2]; exact heap_alloc_new _ _
  have d2 : Below w2.heap.size w2 W2 := by rw [← hW2]; exact (Below.refl _ _).alloc (Nat.le_refl _) _
  have HW2 := Lib.hid hW2
  have k2' := bthen k2 d2
  have h12 := bthen b2 d2
  have s2 := b2.size
  have HM2 := Lib.hid (show VO W2 (Span W1.heap.size w2.heap.size none) (n' + 1) _ x from hvm.keep (fun _ hg => hg) (SameAt.below d2 fun _ hg => hg.2.1))
  have HA2 := Lib.hid (HA.out.keep (fun _ hg => hg) (SameAt.below h12 fun _ hg => by have := hg.2.1; omega))
  have G12 := Lib.hid (row_keep h12 G1.out)
  have G2 := Lib.hid g2
  have M2 := Lib.hid (C4.out W2 k2')
  obtain ⟨q0, q1, q2, q3, q4, q5⟩ := hbox.out W2 k2'
  rw [← HW2.out] at q0 q1 q2 q3 q4 q5
  clear hvm hW2 g2 d2 M1 HA G1
  go_wp2_with fail
  rw [HW2.out]
  ((with_reducible refine M2.out.mono ?_); rintro e w3 ⟨cw, rfl, hvw, b3⟩)
  obtain ⟨_, A5, a5, A6, a6, -, rfl, -⟩ := hvw.open
  have k3 := bthen k2' b3
  obtain ⟨W3, hW3⟩ : ∃ W', w3.alloc (.cells #[.int .i64 x.k, .bool x.b, .int .i64 x.i, .string (bs x.s), .slice A5 x.l.length a5, .slice A6 x.o.length a6] 26) = W' := ⟨_, rfl⟩
  have zz3 : W3.heap.size = w3.heap.size + 1 := by rw [← hW3]; exact World.size_alloc _ _
  have g3 : W3.heap[w3.heap.size]? = some (.cells #[.int .i64 x.k, .bool x.b, .int .i64 x.i, .string (bs x.s), .slice A5 x.l.length a5, .slice A6 x.o.length a6] 26 (0, 0)) := by rw [← hW3]; exact heap_alloc_new _ _
  have d3 : Below w3.heap.size w3 W3 := by rw [← hW3]; exact (Below.refl _ _).alloc (Nat.le_refl _) _
  have HW3 := Lib.hid hW3
  have k3' := bthen k3 d3
  have h23 := bthen b3 d3
  have s3 := b3.size
  have HM3 := Lib.hid (HM2.out.keep (fun _ hg => hg) (SameAt.below h23 fun _ hg => by have := hg.2.1; omega))
  have HA3 := Lib.hid (HA2.out.keep (fun _ hg => hg) (SameAt.below h23 fun _ hg => by have := hg.2.1; omega))
  have G13 := Lib.hid (row_keep h23 G12.out)
  have G23 := Lib.hid (row_keep h23 G2.out)
  have E1 := Lib.hid (refEqual_any (n' + 1) _ _ x W3 (HM3.out.vin fun _ hg => by have := hg.2.1; omega) (hvw.then d3))
  clear q0 q1 q2 q3 q4 q5
  obtain ⟨p0, p1, p2, p3, p4, p5⟩ := row6 G23.out
  rw [← HW3.out] at p0 p1 p2 p3 p4 p5
  clear hvw hW3 g3 d3 M2 HM2 HA2 G12 G2 b3
  go_wp2_with fail
  rw [HW3.out]
  ((with_reducible refine E1.out.mono ?_); rintro e w4 ⟨rfl, b4⟩)
  have k4 := bthen k3' b4
  have s4 := b4.size
  have HM4 := Lib.hid (HM3.out.keep (fun _ hg => hg) (SameAt.below b4 fun _ hg => by have := hg.2.1; omega))
  have HA4 := Lib.hid (HA3.out.keep (fun _ hg => hg) (SameAt.below b4 fun _ hg => by have := hg.2.1; omega))
  have G14 := Lib.hid (row_keep b4 G13.out)
  have G24 := Lib.hid (row_keep b4 G23.out)
  have P1 := Lib.hid (spoil_any (Span W1.heap.size w2.heap.size none) (n' + 1) _ x w2.heap.size 0 w4 HM4.out (range_of_row G24.out 0 _ (fun i u hu => by rw [Nat.zero_add, ← Array.getElem?_toList]; exact hu)))
  clear p0 p1 p2 p3 p4 p5 E1 HM3 HA3 G13 G23 b4
  go_wp2_with fail
  ((with_reducible refine P1.out.mono ?_); rintro e w5 ⟨rfl, h5⟩)
  have b5 : Below W0.heap.size w4 w5 := h5.below k4.size fun _ hg => by have := hg.1; omega
  have k5 := k4.trans b5
  have HA5 := Lib.hid (HA4.out.keep (fun _ hg => hg) (h5.same fun g hg => ⟨fun h => by have := h.1; have := hg.2.1; omega, by have := hg.2.1; omega⟩))
  have G15 := Lib.hid ((h5.block w1.heap.size (by omega) (fun h => by have := h.1; omega)).trans G14.out)
  have s5 := h5.size
  obtain ⟨p0, p1, p2, p3, p4, p5⟩ := row6 G15.out
  obtain ⟨q0, q1, q2, q3, q4, q5⟩ := hbox.out w5 k5
  have E3 := Lib.hid (refEqual_any (n' + 1) _ _ v w5 (HA5.out.vin fun _ hg => by have := hg.2.1; omega) (HV.out w5 k5))
  clear h5 b5 P1 HM4 HA4 G14 G24
  go_wp2_with fail
  ((with_reducible refine E3.out.mono ?_); rintro e w6 ⟨rfl, b6⟩)
  have k6 := bthen k5 b6
  go_wp2_with fail
  ((with_reducible refine (C3.out _ k6).mono ?_); rintro e w11 ⟨rfl, b11⟩)
  have k11 := hfin.out _ (bthen k6 b11)
  go_wp2
  go_ret
  exact ⟨rfl, k11⟩
theorem valMember_walk (n : Nat) (cs : List Value) (v : Val) (s : ByteArray) (w : World) (hT : Tabs w) (h : VIn w w.heap.size n cs v) (hf : Fit n v) (_ : s.size ≤ 140737488351232) :
    Calls Tryd.prog 10 #[.agg cs.toArray, .string s] w fun e w' => e = .returned (.bool true) ∧ Below w.heap.size w w' := by
  rw [bs_of s]
  exact valMember_core n cs v _ w hT h hf
end Go.Proofs.YthaikagelloeoaaDoor
