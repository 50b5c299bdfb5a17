import Derived.Test.YthaikagelloeoaaDoorValLaws
import Derived.Test.YthaikagelloeoaaDoorValMeasure
import Derived.Deep.RegionHeld3
namespace Go.Proofs.YthaikagelloeoaaDoor
open Go.RowKit Val

set_option maxRecDepth 100000 in
set_option maxHeartbeats 4000000 in
theorem valMeasures_walk (n : Nat) (cs : List Value) (v : Val) (w : World) (hT : Tabs w) (h : VIn w w.heap.size n cs v) (hf : Fit n v) :
    Calls Tryd.prog 7 #[.agg cs.toArray] w fun e w' => e = .returned (.bool true) ∧ Below w.heap.size w w' := by
  obtain ⟨_, B1, e1, B2, e2, -, rfl, -⟩ := h.open
  obtain ⟨d, hd⟩ : ∃ r, r = deep n v := ⟨_, rfl⟩
  obtain ⟨s, hs⟩ : ∃ r, r = size n v := ⟨_, rfl⟩
  obtain ⟨W0, hW0⟩ : ∃ W0, w.alloc (.cells #[.int .i64 v.k, .bool v.b, .int .i64 v.i, .string (bs v.s), .slice B1 v.l.length e1, .slice B2 v.o.length e2] 26) = W0 := ⟨_, rfl⟩
  have b0 : Below w.heap.size w W0 := by rw [← hW0]; exact (Below.refl _ w).alloc (Nat.le_refl _) _
  have z0 : W0.heap.size = w.heap.size + 1 := by rw [← hW0]; exact World.size_alloc _ _
  have c1 : ∀ W, Below W0.heap.size W0 W → Calls Tryd.prog 22 _ W _ := fun W hW => (deep_any n _ v W (h.then (bthen b0 hW))).mono (R' := fun e w' => e = .returned (.int .i64 (deep n v)) ∧ Below W0.heap.size W0 w') fun e w' ⟨he, hb⟩ => ⟨he, bthen hW hb⟩
  have c2 : ∀ W, Below W0.heap.size W0 W → Calls Tryd.prog 23 _ W _ := fun W hW => (refDeep_any n _ v W (h.then (bthen b0 hW)) hf).mono (R' := fun e w' => e = .returned (.int .i64 (deep n v)) ∧ Below W0.heap.size W0 w') fun e w' ⟨he, hb⟩ => ⟨he, bthen hW hb⟩
  have c3 : ∀ W, Below W0.heap.size W0 W → Calls Tryd.prog 13 #[] W _ := fun W hW => (valKnown_any W (tabs_below hT (bthen b0 hW))).mono (R' := fun e w' => e = .returned (.bool true) ∧ Below W0.heap.size W0 w') fun e w' ⟨he, hb⟩ => ⟨he, bthen hW hb⟩
  have c4 : ∀ W, Below W0.heap.size W0 W → Calls Tryd.prog 24 _ W _ := fun W hW => (size_any n _ v W (h.then (bthen b0 hW))).mono (R' := fun e w' => e = .returned (.int .i64 (size n v)) ∧ Below W0.heap.size W0 w') fun e w' ⟨he, hb⟩ => ⟨he, bthen hW hb⟩
  have c5 : ∀ W, Below W0.heap.size W0 W → Calls Tryd.prog 25 _ W _ := fun W hW => (refSize_any n _ v W (h.then (bthen b0 hW)) hf).mono (R' := fun e w' => e = .returned (.int .i64 (size n v)) ∧ Below W0.heap.size W0 w') fun e w' ⟨he, hb⟩ => ⟨he, bthen hW hb⟩
  rw [← hd] at c1 c2
  rw [← hs] at c4 c5
  have C1 := Lib.hid c1
  have C2 := Lib.hid c2
  have C3 := Lib.hid c3
  have C4 := Lib.hid c4
  have C5 := Lib.hid c5
  have hbox : Hid (∀ W, Below W0.heap.size W0 W → _) := fun W hW => by
    rw [z0, ← hW0] at hW
    exact box6 hW
  have hfin : Hid (∀ W, Below W0.heap.size W0 W → Below w.heap.size w W) := fun W hW => bthen b0 hW
  have hb := Below.refl W0.heap.size W0
  obtain ⟨q0, q1, q2, q3, q4, q5⟩ := hbox.out W0 hb
  have HW0 := Lib.hid hW0
  clear c1 c2 c3 c4 c5 hd hs h hf hW0 b0 z0 hT
  go_enter Tryd.func7, Tryd.ntmps7
  go_wp2_with fail
  rw [HW0.out]
  go_region_held3 (fun w' => w'.cell? ⟨w.heap.size, 0, none⟩ = some (.int .i64 v.k) ∧ w'.cell? ⟨w.heap.size, 1, none⟩ = some (.bool v.b) ∧ w'.cell? ⟨w.heap.size, 2, none⟩ = some (.int .i64 v.i) ∧ w'.cell? ⟨w.heap.size, 3, none⟩ = some (.string (bs v.s)) ∧ w'.cell? ⟨w.heap.size, 4, none⟩ = some (.slice B1 v.l.length e1) ∧ w'.cell? ⟨w.heap.size, 5, none⟩ = some (.slice B2 v.o.length e2))
    (first | exact hbox.out _ (by assumption) | exact hbox.out _ (Below.drew (by assumption)))
    (first
      | (go_at_call 22; (with_reducible refine (C1.out _ (by first | assumption | exact Below.drew (by assumption))).mono ?_); rintro e wa ⟨rfl, hb1⟩)
      | (go_at_call 23; (with_reducible refine (C2.out _ (by first | assumption | exact Below.drew (by assumption))).mono ?_); rintro e wb ⟨rfl, hb2⟩)
      | (go_at_call 24; (with_reducible refine (C4.out _ (by first | assumption | exact Below.drew (by assumption))).mono ?_); rintro e wc ⟨rfl, hb3⟩)
      | (go_at_call 25; (with_reducible refine (C5.out _ (by first | assumption | exact Below.drew (by assumption))).mono ?_); rintro e wd ⟨rfl, hb4⟩)
      | (go_at_call 13; (with_reducible refine (C3.out _ (by first | assumption | exact Below.drew (by assumption))).mono ?_); rintro e we ⟨rfl, hb5⟩))
  all_goals
    go_wp2
    go_ret
    exact ⟨rfl, hfin.out _ (by assumption)⟩

set_option maxRecDepth 100000 in
set_option maxHeartbeats 4000000 in
theorem valWithin_walk (n : Nat) (cs : List Value) (v : Val) (w : World) (hT : Tabs w) (h : VIn w w.heap.size n cs v) (hf : Fit n v) :
    Calls Tryd.prog 8 #[.agg cs.toArray] w fun e w' => e = .returned (.bool true) ∧ Below w.heap.size w w' := by
  obtain ⟨n', B1, e1, B2, e2, rfl, rfl, -⟩ := h.open
  obtain ⟨n, hn⟩ : ∃ n, n' = n := ⟨_, rfl⟩
  subst hn
  obtain ⟨d, hd⟩ : ∃ r, r = deep (n' + 1) v := ⟨_, rfl⟩
  obtain ⟨s, hs⟩ : ∃ r, r = size (n' + 1) v := ⟨_, rfl⟩
  obtain ⟨l, hl⟩ : ∃ l, l = v.kids := ⟨_, rfl⟩
  obtain ⟨W0, hW0⟩ : ∃ W0, w.alloc (.cells #[.int .i64 v.k, .bool v.b, .int .i64 v.i, .string (bs v.s), .slice B1 v.l.length e1, .slice B2 v.o.length e2] 26) = W0 := ⟨_, rfl⟩
  have b0 : Below w.heap.size w W0 := by rw [← hW0]; exact (Below.refl _ w).alloc (Nat.le_refl _) _
  have z0 : W0.heap.size = w.heap.size + 1 := by rw [← hW0]; exact World.size_alloc _ _
  have c1 : ∀ W, Below W0.heap.size W0 W → Calls Tryd.prog 22 _ W _ := fun W hW => (deep_any _ _ v W (h.then (bthen b0 hW))).mono (R' := fun e w' => e = .returned (.int .i64 (deep (n' + 1) v)) ∧ Below W0.heap.size W0 w') fun e w' ⟨he, hb⟩ => ⟨he, bthen hW hb⟩
  have c2 := fun W (hW : Below w.heap.size w W) => within_any n' _ v W (h.then hW) hf
  have c3 : ∀ W, Below W0.heap.size W0 W → Calls Tryd.prog 13 #[] W _ := fun W hW => (valKnown_any W (tabs_below hT (bthen b0 hW))).mono (R' := fun e w' => e = .returned (.bool true) ∧ Below W0.heap.size W0 w') fun e w' ⟨he, hb⟩ => ⟨he, bthen hW hb⟩
  have c4 : ∀ W, Below W0.heap.size W0 W → Calls Tryd.prog 24 _ W _ := fun W hW => (size_any _ _ v W (h.then (bthen b0 hW))).mono (R' := fun e w' => e = .returned (.int .i64 (size (n' + 1) v)) ∧ Below W0.heap.size W0 w') fun e w' ⟨he, hb⟩ => ⟨he, bthen hW hb⟩
  have HD : Hid (∀ q, q = foldK stepD (deep n') 0 l → wrap64 (q + 1) = d) := by
    intro q hq
    rw [hd, hq, hl]
    rfl
  have HS : Hid (∀ q, q = foldK stepS (size n') 1 l → q = s) := by
    intro q hq
    rw [hs, hq, hl]
    rfl
  rw [← hd] at c1
  rw [← hs] at c4
  rw [← hl] at c2
  have C1 := Lib.hid c1
  have C2 := Lib.hid (c2 _ b0)
  have C3 := Lib.hid c3
  have C4 := Lib.hid c4
  have hbox : Hid (∀ W, Below W0.heap.size W0 W → _) := fun W hW => by
    rw [z0, ← hW0] at hW
    exact box6 hW
  have hfin : Hid (∀ W, Below W0.heap.size W0 W → Below w.heap.size w W) := fun W hW => bthen b0 hW
  have hb := Below.refl W0.heap.size W0
  obtain ⟨q0, q1, q2, q3, q4, q5⟩ := hbox.out W0 hb
  have HW0 := Lib.hid hW0
  clear c1 c2 c3 c4 hd hs hl h hf hW0 b0 z0 hT
  go_enter Tryd.func8, Tryd.ntmps8
  go_wp2_with fail
  rw [HW0.out]
  ((with_reducible refine C2.out.mono ?_); rintro e w2 ⟨A, c, rfl, hlen, hL, b2⟩)
  have HL := Lib.hid hL
  clear hL q0 q1 q2 q3 q4 q5 hb
  go_wp2_with fail
  go_loopw [4, 5, 6] (fun sz dp i wr => ∃ (j : Nat) (x y : Int), j ≤ l.length ∧ i = .int .i64 j ∧ sz = .int .i64 x ∧ dp = .int .i64 y ∧ Hid (x = foldK stepS (size n') 1 (l.take j) ∧ y = foldK stepD (deep n') 0 (l.take j)) ∧ Below w2.heap.size w2 wr) (fun _ _ i _ => l.length - (intOf i).toNat)
  case atStart => exact ⟨0, 1, 0, Nat.zero_le _, rfl, rfl, rfl, ⟨rfl, rfl⟩, Below.refl _ _⟩
  case round =>
    obtain ⟨j, p1, p2, hj, rfl, rfl, rfl, HQ, hb⟩ := hrel
    by_cases hlt : j < l.length
    · obtain ⟨x, hx⟩ : ∃ x, l[j]? = some x := ⟨_, List.getElem?_eq_getElem hlt⟩
      obtain ⟨g, p, ds, rfl, hgB, hr, hxi⟩ := HL.out j x hx
      obtain ⟨_, B3, e3, B4, e4, -, rfl, -⟩ := hxi.open
      have h1 := foldK_take stepS (size n') 1 l j x hx
      have h2 := foldK_take stepD (deep n') 0 l j x hx
      obtain ⟨r1, hr1⟩ : ∃ r, r = size n' x := ⟨_, rfl⟩
      obtain ⟨r2, hr2⟩ : ∃ r, r = deep n' x := ⟨_, rfl⟩
      have k1 := fun W (hW : Below wr.heap.size wr W) => size_any _ _ x W ((hxi.then hb).then hW)
      have k2 := fun W (hW : Below wr.heap.size wr W) => deep_any _ _ x W ((hxi.then hb).then hW)
      rw [← hr1] at k1 h1
      rw [← hr2] at k2 h2
      rw [← HQ.out.1] at h1
      rw [← HQ.out.2] at h2
      have K1 := Lib.hid k1
      have K2 := Lib.hid k2
      have H12 := Lib.hid (And.intro h1.symm h2.symm)
      have HR := Lib.hid fun W (hW : Below w2.heap.size w2 W) => range6 (w := W) (fun i u hu => (hW.cell (p := ⟨g, p + j * 6 + i, none⟩) hgB).trans (hr i u hu))
      clear h1 h2 hr1 hr2 k1 k2 hx hr hxi HQ
      obtain ⟨a0, a1, a2, a3, a4, a5⟩ := HR.out wr hb
      go_wp2_with fail
      ((with_reducible refine (K1.out _ (Below.refl _ _)).mono ?_); rintro e w4 ⟨rfl, b4⟩)
      have b5 := bthen hb b4
      clear a0 a1 a2 a3 a4 a5
      obtain ⟨a0, a1, a2, a3, a4, a5⟩ := HR.out w4 b5
      go_wp2_with fail
      ((with_reducible refine (K2.out _ b4).mono ?_); rintro e w5 ⟨rfl, b6⟩)
      have b7 := bthen b5 b6
      clear a0 a1 a2 a3 a4 a5 b5 b6 hb
      go_wp2
      go_roundw
      case rel => exact ⟨j + 1, stepS p1 r1, stepD p2 r2, by omega, by go_num, rfl, rfl, H12, b7⟩
      case measure => simp [intOf]; omega
    · have h1 : p1 = s := HS.out p1 (by rw [HQ.out.1, List.take_of_length_le (by omega)])
      have h2 : wrap64 (p2 + 1) = d := HD.out p2 (by rw [HQ.out.2, List.take_of_length_le (by omega)])
      have h3 : IntKind.i64.wrap (p2 + 1) = d := by rw [← h2]; exact IntWalk.i64_left _
      subst h1
      have H2 := Lib.hid h2
      have H3 := Lib.hid h3
      have hb5 := bthen b2 hb
      clear h2 h3 HQ HS HD hb
      obtain ⟨q0, q1, q2, q3, q4, q5⟩ := hbox.out wr hb5
      go_wp2_with fail
      ((with_reducible refine (C4.out _ hb5).mono ?_); rintro e w6 ⟨rfl, b6⟩)
      clear q0 q1 q2 q3 q4 q5
      obtain ⟨q0, q1, q2, q3, q4, q5⟩ := hbox.out w6 b6
      go_wp2_with fail
      ((with_reducible refine (C1.out _ b6).mono ?_); rintro e w7 ⟨rfl, b7⟩)
      have h2 := H2.out
      go_wp2_with fail
      ((with_reducible refine (C3.out _ b7).mono ?_); rintro e w8 ⟨rfl, b8⟩)
      go_wp2
      go_ret
      exact ⟨rfl, hfin.out _ b8⟩
end Go.Proofs.YthaikagelloeoaaDoor
