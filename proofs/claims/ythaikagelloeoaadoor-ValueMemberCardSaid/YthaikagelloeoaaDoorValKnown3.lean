import Derived.Test.YthaikagelloeoaaDoorValKnown2
namespace Go.Proofs.YthaikagelloeoaaDoor
open Go.RowKit Val

set_option maxRecDepth 100000 in
set_option maxHeartbeats 2000000 in
theorem valKnown_any (w : World) (hT : Tabs w) : Calls Tryd.prog 13 #[] w fun e w' => e = .returned (.bool true) ∧ Below w.heap.size w w' := by
  go_enter Tryd.func13, Tryd.ntmps13
  go_wp2_with fail
  ((with_reducible refine (known_num _ _).mono ?_); rintro e w1 ⟨rfl, b1⟩)
  go_wp2_with fail
  ((with_reducible refine (known_num _ _).mono ?_); rintro e w2 ⟨rfl, b2⟩)
  have k2 := bthen b1 b2
  clear b1 b2
  go_wp2_with fail
  have hr1 := heap_alloc_new w2 (.cells (flatR 3 false 2 ⟨#[]⟩).toArray 26)
  have k3 : Below w.heap.size w (w2.alloc (.cells (flatR 3 false 2 ⟨#[]⟩).toArray 26)) := k2.alloc k2.size _
  obtain ⟨g1, hg1⟩ : ∃ g1, g1 = w2.heap.size := ⟨_, rfl⟩
  ((with_reducible refine (known_list _ _ _ _).mono ?_); rintro e w3 ⟨rfl, b3⟩)
  have k4 := bthen k3 b3
  have hr1 := row_keep b3 hr1
  rw [← hg1] at hr1 ⊢
  clear b3 k2 k3 hg1
  go_wp2_with fail
  ((with_reducible refine (known_list _ _ _ _).mono ?_); rintro e w4 ⟨rfl, b4⟩)
  have k5 := bthen k4 b4
  have hr1 := row_keep b4 hr1
  clear b4 k4
  go_wp2_with fail
  ((with_reducible refine (known_obj _ _ _ _ _ _ _ _).mono ?_); rintro e w5 ⟨g2, _, _, hr2, rfl, b5⟩)
  have k6 := bthen k5 b5
  have hr1 := row_keep b5 hr1
  clear b5 k5
  go_wp2_with fail
  have hr3 := heap_alloc_new w5 (.cells (flatR 3 false 1 ⟨#[]⟩ ++ listR (some ⟨g1, 0, none⟩) 1 1 ++ objR (some ⟨g2, 0, none⟩) 1 1).toArray 26)
  have k7 : Below w.heap.size w (w5.alloc (.cells (flatR 3 false 1 ⟨#[]⟩ ++ listR (some ⟨g1, 0, none⟩) 1 1 ++ objR (some ⟨g2, 0, none⟩) 1 1).toArray 26)) := k6.alloc k6.size _
  have b6 : Below w5.heap.size w5 (w5.alloc (.cells (flatR 3 false 1 ⟨#[]⟩ ++ listR (some ⟨g1, 0, none⟩) 1 1 ++ objR (some ⟨g2, 0, none⟩) 1 1).toArray 26)) := (Below.refl _ w5).alloc (Nat.le_refl _) _
  have hr1 := row_keep b6 hr1
  have hr2 := row_keep b6 hr2
  clear b6
  obtain ⟨g3, hg3⟩ : ∃ g3, g3 = w5.heap.size := ⟨_, rfl⟩
  ((with_reducible refine (known_list _ _ _ _).mono ?_); rintro e w6 ⟨rfl, b7⟩)
  have k8 := bthen k7 b7
  have hr1 := row_keep b7 hr1
  have hr2 := row_keep b7 hr2
  have hr3 := row_keep b7 hr3
  rw [← hg3] at hr3 ⊢
  clear b7 k6 k7 hg3
  have hk1 := k1_in hr1 hr2 hr3
  clear hr1 hr2 hr3
  have b8 : Below w6.heap.size w6 (w6.alloc (.cells (listR (some ⟨g3, 0, none⟩) 3 3).toArray 26)) := (Below.refl _ w6).alloc (Nat.le_refl _) _
  have hk1 := hk1.then b8
  have hbx := heap_alloc_new w6 (.cells (listR (some ⟨g3, 0, none⟩) 3 3).toArray 26)
  have k9 := bthen k8 b8
  clear b8 k8
  obtain ⟨gb, hgb⟩ : ∃ gb, gb = w6.heap.size := ⟨_, rfl⟩
  go_wp2_with fail
  rw [← hgb] at hbx ⊢
  obtain ⟨w7, hw7⟩ : ∃ w7, w6.alloc (.cells (listR (some ⟨g3, 0, none⟩) 3 3).toArray 26) = w7 := ⟨_, rfl⟩
  rw [hw7] at hbx k9 hk1
  have HW7 : Hid (w6.alloc (.cells #[.int .i64 5, .bool false, .int .i64 0, .string ⟨#[]⟩, .slice (some ⟨g3, 0, none⟩) 3 3, .slice none 0 0] 26) = w7) := hw7
  clear hw7 hgb
  rw [HW7.out]
  clear HW7
  ((with_reducible refine (known_num _ _).mono ?_); rintro e w8 ⟨rfl, b8⟩)
  have k10 := bthen k9 b8
  have hk1 := hk1.then b8
  have hbx := row_keep b8 hbx
  clear b8 k9
  go_wp2_with fail
  ((with_reducible refine (known_list _ _ _ _).mono ?_); rintro e w9 ⟨rfl, b8⟩)
  have k11 := bthen k10 b8
  have hk1 := hk1.then b8
  have hbx := row_keep b8 hbx
  clear b8 k10
  go_wp2_with fail
  ((with_reducible refine (known_num _ _).mono ?_); rintro e w10 ⟨rfl, b8⟩)
  have k12 := bthen k11 b8
  have hk1 := hk1.then b8
  have hbx := row_keep b8 hbx
  clear b8 k11
  go_wp2_with fail
  have hr1 := heap_alloc_new w10 (.cells (flatR 3 false 1 ⟨#[]⟩).toArray 26)
  have b8 : Below w10.heap.size w10 (w10.alloc (.cells (flatR 3 false 1 ⟨#[]⟩).toArray 26)) := (Below.refl _ w10).alloc (Nat.le_refl _) _
  have k13 := bthen k12 b8
  have hk1 := hk1.then b8
  have hbx := row_keep b8 hbx
  clear b8 k12
  obtain ⟨g4, hg4⟩ : ∃ g4, g4 = w10.heap.size := ⟨_, rfl⟩
  ((with_reducible refine (known_list _ _ _ _).mono ?_); rintro e w11 ⟨rfl, b8⟩)
  have k14 := bthen k13 b8
  have hk1 := hk1.then b8
  have hbx := row_keep b8 hbx
  have hr1 := row_keep b8 hr1
  rw [← hg4] at hr1 ⊢
  clear b8 k13 hg4
  have b8 : Below w11.heap.size w11 (w11.alloc (.cells (klR g4).flatten.toArray 26)) := (Below.refl _ w11).alloc (Nat.le_refl _) _
  have k15 := bthen k14 b8
  have hk1 := hk1.then b8
  have hbx := row_keep b8 hbx
  have hr1 := row_keep b8 hr1
  have hr2 := heap_alloc_new w11 (.cells (klR g4).flatten.toArray 26)
  clear b8 k14
  obtain ⟨g5, hg5e⟩ : ∃ g5, g5 = w11.heap.size := ⟨_, rfl⟩
  obtain ⟨W0, hW0⟩ : ∃ W0, w11.alloc (.cells (klR g4).flatten.toArray 26) = W0 := ⟨_, rfl⟩
  rw [hW0] at hk1 hbx hr1 hr2 k15
  rw [← hg5e] at hr2
  have HW0 : Hid (w11.alloc (.cells #[.int .i64 1, .bool false, .int .i64 0, .string ⟨#[]⟩, .slice none 0 0, .slice none 0 0, .int .i64 2, .bool false, .int .i64 0, .string ⟨#[]⟩, .slice none 0 0, .slice none 0 0, .int .i64 3, .bool false, .int .i64 3, .string ⟨#[]⟩, .slice none 0 0, .slice none 0 0, .int .i64 4, .bool false, .int .i64 0, .string ⟨#[97]⟩, .slice none 0 0, .slice none 0 0, .int .i64 5, .bool false, .int .i64 0, .string ⟨#[]⟩, .slice none 0 0, .slice none 0 0, .int .i64 5, .bool false, .int .i64 0, .string ⟨#[]⟩, .slice (some ⟨g4, 0, none⟩) 1 1, .slice none 0 0, .int .i64 6, .bool false, .int .i64 0, .string ⟨#[]⟩, .slice none 0 0, .slice none 0 0] 26) = W0) := hW0
  have HG5 : Hid (w11.heap.size = g5) := hg5e.symm
  have hgb : gb < W0.heap.size := (Array.getElem?_eq_some_iff.1 hbx).1
  have hL : ∀ j x, kl[j]? = some x → ∃ ds, W0.rangeAt g5 (0 + j * 6) ds ∧ VIn W0 W0.heap.size 4 ds x := fun j x hx => kl_in hr1 hr2 j x hx
  have hg5 : g5 < W0.heap.size := (Array.getElem?_eq_some_iff.1 hr2).1
  have HK1 := Lib.hid hk1
  have HBX := Lib.hid hbx
  have HL := Lib.hid hL
  have HT0 := Lib.hid (tabs_below hT k15)
  clear hk1 hbx hL hr1 hr2 hW0 hT hg5e
  go_wp2_with fail
  rw [HW0.out, HG5.out]
  clear HW0 HG5
  go_loopw [3] (fun i wr => ∃ j : Nat, j ≤ 6 ∧ i = .int .i64 j ∧ Below W0.heap.size W0 wr) (fun i _ => 6 - (intOf i).toNat)
  case atStart => exact ⟨0, Nat.zero_le _, rfl, Below.refl _ _⟩
  case round =>
    obtain ⟨j, hj, rfl, hb⟩ := hrel
    by_cases hlt : j < 6
    · obtain ⟨x, y, hx, hy, hc, hm⟩ := kl_at j hlt
      obtain ⟨ds, hr, hv⟩ := HL.out j x hx
      obtain ⟨ds', hr', hv'⟩ := HL.out (j + 1) y hy
      rw [Nat.zero_add] at hr hr'
      have hC : ∀ W, Below W0.heap.size W0 W → Calls Tryd.prog 16 _ W _ := fun W hW => compare_any 4 _ _ x y W (hv.then hW) (hv'.then hW)
      have hM : ∀ W, Below W0.heap.size W0 W → Calls Tryd.prog 11 _ W _ := fun W hW => mayTop_any 4 _ x W (hv.then hW) (tabs_below HT0.out hW)
      rw [hc] at hC
      rw [hm] at hM
      obtain ⟨_, B1, e1, B2, e2, -, rfl, -⟩ := hv.open
      obtain ⟨_, B3, e3, B4, e4, -, rfl, -⟩ := hv'.open
      have hcell : Hid (∀ W, Below W0.heap.size W0 W → _) := fun W hW => range6 (w := W) (fun i u hu => (hW.cell (p := ⟨g5, j * 6 + i, none⟩) hg5).trans (hr i u hu))
      have hcell' : Hid (∀ W, Below W0.heap.size W0 W → _) := fun W hW => range6 (w := W) (fun i u hu => (hW.cell (p := ⟨g5, (j + 1) * 6 + i, none⟩) hg5).trans (hr' i u hu))
      have HC := Lib.hid (fun W (hW : Below W0.heap.size W0 W) => (hC W hW).mono (R' := fun e w' => e = .returned (.int .i64 (-1)) ∧ Below W0.heap.size W0 w') fun e w' ⟨he, hb⟩ => ⟨he, bthen hW hb⟩)
      have HM := Lib.hid (fun W (hW : Below W0.heap.size W0 W) => (hM W hW).mono (R' := fun e w' => e = .returned (.int .i64 0) ∧ Below W0.heap.size W0 w') fun e w' ⟨he, hb⟩ => ⟨he, bthen hW hb⟩)
      clear hC hM hc hm hx hy hv hv' hr hr'
      have j7 : j + 1 < 7 := by omega
      obtain ⟨a0, a1, a2, a3, a4, a5⟩ := hcell.out _ hb
      obtain ⟨d0, d1, d2, d3, d4, d5⟩ := hcell'.out _ hb
      go_wp2_with fail
      have i1 : (j : Int) < 7 := by omega
      have i2 : (0 : Int) ≤ (j : Int) + 1 := by omega
      have i3 : (j : Int) + 1 < 7 := by omega
      have i4 : IntKind.i64.wrap ((j : Int) + 1) = (j : Int) + 1 := by rw [IntKind.wrap_i64]; omega
      have i5 : ((j : Int) + 1).toNat = j + 1 := by omega
      go_region_with (first
        | (go_at_call 16; (with_reducible refine (HC.out _ hb.drew).mono ?_); rintro e w' ⟨rfl, hb1⟩; obtain ⟨a0, a1, a2, a3, a4, a5⟩ := hcell.out _ hb1)
        | (go_at_call 11; (with_reducible refine (HM.out _ hb1).mono ?_); rintro e w' ⟨rfl, hb2⟩))
      all_goals
        clear a0 a1 a2 a3 a4 a5
        go_wp2
        go_roundw
        case rel => exact ⟨j + 1, by omega, by go_num, by assumption⟩
        case measure => simp [intOf]; omega
    · obtain rfl : j = 6 := by omega
      clear hlt
      have hbox : Hid (∀ W, Below W0.heap.size W0 W → _) := fun W hW => range6 (w := W) (fun i u hu => (hW.cell (p := ⟨gb, 0 + i, none⟩) hgb).trans (range_of_row HBX.out 0 _ (fun i v h => by rw [Nat.zero_add, ← Array.getElem?_toList]; exact h) i u hu))
      have hD : ∀ W, Below W0.heap.size W0 W → Calls Tryd.prog 22 #[.agg #[.int .i64 5, .bool false, .int .i64 0, .string ⟨#[]⟩, .slice (some ⟨g3, 0, none⟩) 3 3, .slice none 0 0]] W fun e w' => e = .returned (.int .i64 (deep 4 k1)) ∧ Below W.heap.size W w' := fun W hW => deep_any 4 _ k1 W (HK1.out.then hW)
      have hS : ∀ W, Below W0.heap.size W0 W → Calls Tryd.prog 24 #[.agg #[.int .i64 5, .bool false, .int .i64 0, .string ⟨#[]⟩, .slice (some ⟨g3, 0, none⟩) 3 3, .slice none 0 0]] W fun e w' => e = .returned (.int .i64 (size 4 k1)) ∧ Below W.heap.size W w' := fun W hW => size_any 4 _ k1 W (HK1.out.then hW)
      rw [k1_deep] at hD
      rw [k1_size] at hS
      have HD := Lib.hid hD
      have HS := Lib.hid hS
      clear hD hS HK1 HBX HL
      obtain ⟨a0, a1, a2, a3, a4, a5⟩ := hbox.out _ hb
      go_wp2_with fail
      ((with_reducible refine (HD.out _ hb).mono ?_); rintro e w12 ⟨rfl, b1⟩)
      have hb2 := bthen hb b1
      obtain ⟨a0, a1, a2, a3, a4, a5⟩ := hbox.out _ hb2
      go_wp2_with fail
      ((with_reducible refine (HS.out _ hb2).mono ?_); rintro e w13 ⟨rfl, b2⟩)
      have hb3 := bthen k15 (bthen hb2 b2)
      go_wp2
      go_ret
      exact ⟨rfl, hb3⟩
end Go.Proofs.YthaikagelloeoaaDoor
