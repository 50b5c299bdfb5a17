import Derived.Test.YthaikagelloeoaaDoorValCmpRef
namespace Go.Proofs.YthaikagelloeoaaDoor
open Go.RowKit Val

/-- Two boxes of values, behind what came. -/
theorem box66 {w w1 : World} {a b c d e f a' b' c' d' e' f' : Value} {t : TypeId} (hb : Below (w.heap.size + 2) ((w.alloc (.cells #[a, b, c, d, e, f] t)).alloc (.cells #[a', b', c', d', e', f'] t)) w1) :
    (w1.cell? ⟨w.heap.size, 0, none⟩ = some a ∧ w1.cell? ⟨w.heap.size, 1, none⟩ = some b ∧ w1.cell? ⟨w.heap.size, 2, none⟩ = some c ∧ w1.cell? ⟨w.heap.size, 3, none⟩ = some d ∧ w1.cell? ⟨w.heap.size, 4, none⟩ = some e ∧ w1.cell? ⟨w.heap.size, 5, none⟩ = some f) ∧
    (w1.cell? ⟨w.heap.size + 1, 0, none⟩ = some a' ∧ w1.cell? ⟨w.heap.size + 1, 1, none⟩ = some b' ∧ w1.cell? ⟨w.heap.size + 1, 2, none⟩ = some c' ∧ w1.cell? ⟨w.heap.size + 1, 3, none⟩ = some d' ∧ w1.cell? ⟨w.heap.size + 1, 4, none⟩ = some e' ∧ w1.cell? ⟨w.heap.size + 1, 5, none⟩ = some f') := by
  have h : w1.heap[w.heap.size]? = some (.cells #[a, b, c, d, e, f] t (0, 0)) := (hb.block w.heap.size (by omega)).trans (heap_alloc2_old w _ _)
  have h' : w1.heap[w.heap.size + 1]? = some (.cells #[a', b', c', d', e', f'] t (0, 0)) := (hb.block (w.heap.size + 1) (by omega)).trans (heap_alloc2_new w _ _)
  exact ⟨⟨by rw [cell_of_row _ _ 0 _ t (0, 0) h]; rfl, by rw [cell_of_row _ _ 1 _ t (0, 0) h]; rfl, by rw [cell_of_row _ _ 2 _ t (0, 0) h]; rfl, by rw [cell_of_row _ _ 3 _ t (0, 0) h]; rfl, by rw [cell_of_row _ _ 4 _ t (0, 0) h]; rfl, by rw [cell_of_row _ _ 5 _ t (0, 0) h]; rfl⟩,
    by rw [cell_of_row _ _ 0 _ t (0, 0) h']; rfl, by rw [cell_of_row _ _ 1 _ t (0, 0) h']; rfl, by rw [cell_of_row _ _ 2 _ t (0, 0) h']; rfl, by rw [cell_of_row _ _ 3 _ t (0, 0) h']; rfl, by rw [cell_of_row _ _ 4 _ t (0, 0) h']; rfl, by rw [cell_of_row _ _ 5 _ t (0, 0) h']; rfl⟩

set_option maxRecDepth 100000 in
set_option maxHeartbeats 4000000 in
theorem refCompare_any : ∀ (n : Nat) (cs cs' : List Value) (v v' : Val) (w : World), VIn w w.heap.size n cs v → VIn w w.heap.size n cs' v' →
    Calls Tryd.prog 14 #[.agg cs.toArray, .agg cs'.toArray] w fun e w' => e = .returned (.int .i64 (cmp n v v')) ∧ Below w.heap.size w w' := by
  intro n
  induction n with
  | zero => intro cs cs' v v' w h; exact absurd h (by simp [VIn])
  | succ n ih =>
    intro cs cs' x y w hx hy
    obtain ⟨m, A1, c1, A2, c2, e, rfl, hk, hi, hs, hl, ho, hc1, hc2, hL, hO⟩ := hx.open
    obtain rfl : n = m := by omega
    obtain ⟨m, A3, c3, A4, c4, e, rfl, hk', hi', hs', hl', ho', hc3, hc4, hL', hO'⟩ := hy.open
    obtain rfl : n = m := by omega
    obtain ⟨M, hM⟩ : ∃ M, M = cmp (n + 1) x y := ⟨_, rfl⟩
    rw [← hM]
    obtain ⟨w1, hw1⟩ : ∃ w1, (w.alloc (.cells #[.int .i64 x.k, .bool x.b, .int .i64 x.i, .string (bs x.s), .slice A1 x.l.length c1, .slice A2 x.o.length c2] 26)).alloc (.cells #[.int .i64 y.k, .bool y.b, .int .i64 y.i, .string (bs y.s), .slice A3 y.l.length c3, .slice A4 y.o.length c4] 26) = w1 := ⟨_, rfl⟩
    have b1 : Below w.heap.size w w1 := by rw [← hw1]; exact ((Below.refl _ w).alloc (Nat.le_refl _) _).alloc (by simp) _
    have z1 : w1.heap.size = w.heap.size + 2 := by rw [← hw1]; simp
    have hbox := fun W (hW : Below (w.heap.size + 2) w1 W) => box66 (by rw [hw1]; exact hW : Below (w.heap.size + 2) ((w.alloc (.cells #[.int .i64 x.k, .bool x.b, .int .i64 x.i, .string (bs x.s), .slice A1 x.l.length c1, .slice A2 x.o.length c2] 26)).alloc (.cells #[.int .i64 y.k, .bool y.b, .int .i64 y.i, .string (bs y.s), .slice A3 y.l.length c3, .slice A4 y.o.length c4] 26)) W)
    have cs := fun W => refTexts_any x.s y.s W hs hs'
    by_cases hkk : x.k = y.k
    · rw [cmp_same hkk] at hM
      unfold same at hM
      have hkb : (x.k != y.k) = false := by rw [hkk]; simp
      have IH := Lib.hid ih
      have HL := Lib.hid hL
      have HL' := Lib.hid hL'
      have HO := Lib.hid hO
      have HO' := Lib.hid hO'
      obtain ⟨lx, hlx⟩ : ∃ l, l = x.l := ⟨_, rfl⟩
      obtain ⟨ly, hly⟩ : ∃ l, l = y.l := ⟨_, rfl⟩
      obtain ⟨ox, hox⟩ : ∃ l, l = x.o := ⟨_, rfl⟩
      obtain ⟨oy, hoy⟩ : ∃ l, l = y.o := ⟨_, rfl⟩
      obtain ⟨sx, hsx⟩ : ∃ l, l = bs x.s := ⟨_, rfl⟩
      obtain ⟨sy, hsy⟩ : ∃ l, l = bs y.s := ⟨_, rfl⟩
      obtain ⟨ix, hix⟩ : ∃ l, l = x.i := ⟨_, rfl⟩
      obtain ⟨iy, hiy⟩ : ∃ l, l = y.i := ⟨_, rfl⟩
      obtain ⟨bx, hbx⟩ : ∃ l, l = x.b := ⟨_, rfl⟩
      obtain ⟨by', hby⟩ : ∃ l, l = y.b := ⟨_, rfl⟩
      obtain ⟨k, hK⟩ : ∃ l, l = x.k := ⟨_, rfl⟩
      have hky : y.k = k := by rw [hK, hkk]
      rw [hky] at hbox hw1 ⊢
      rw [← hK] at hM hbox hw1 ⊢
      simp only [← hlx, ← hox, ← hsx, ← hix, ← hbx, ← hly, ← hoy, ← hsy, ← hiy, ← hby] at hbox hw1 ⊢
      rw [← hlx] at HL hl
      rw [← hly] at HL' hl'
      rw [← hox] at HO ho
      rw [← hoy] at HO' ho'
      rw [← hsx, ← hsy] at cs
      rw [← hlx, ← hly, ← hox, ← hoy, ← hix, ← hiy, ← hbx, ← hby] at hM
      have HM := Lib.hid hM
      have HS := Lib.hid cs
      have HBX := Lib.hid hbox
      have HW := Lib.hid hw1
      clear cs hM hkb hlx hly hox hoy hsx hsy hix hiy hbx hby hK hky hkk hL hO hL' hO' ih hx hy hk hk' hi hi' hs hs' hbox hw1 hc1 hc2 hc3 hc4 z1
      by_cases k2 : k = 2
      · subst k2
        have HE : Hid (M = cmpI (num bx) (num by')) := HM.out
        cases bx <;> cases by'
        all_goals
          go_enter Tryd.func14, Tryd.ntmps14
          go_wp2
          go_ret
          refine ⟨by rw [HE.out] <;> rfl, ?_⟩
          go_grown
      · have t2 : (k == 2) = false := by rw [beq_eq_false_iff_ne]; exact k2
        by_cases k3 : k = 3
        · subst k3
          have HE : Hid (M = cmpI ix iy) := HM.out
          go_enter Tryd.func14, Tryd.ntmps14
          go_wp2_with fail
          ((with_reducible refine (refNumbers_any _ _ _).mono ?_); rintro e w1 ⟨rfl, rfl⟩)
          go_wp2
          go_ret
          refine ⟨by rw [HE.out] <;> rfl, ?_⟩
          go_grown
        · have t3 : (k == 3) = false := by rw [beq_eq_false_iff_ne]; exact k3
          by_cases k4 : k = 4
          · subst k4
            have HE : Hid (M = cmpB x.s y.s) := HM.out
            go_enter Tryd.func14, Tryd.ntmps14
            go_wp2_with fail
            rw [HW.out]
            ((with_reducible refine (HS.out _).mono ?_); rintro e w2 ⟨rfl, b2⟩)
            have b3 := bthen b1 b2
            go_wp2
            go_ret
            exact ⟨by rw [HE.out] <;> rfl, b3⟩
          · have t4 : (k == 4) = false := by rw [beq_eq_false_iff_ne]; exact k4
            by_cases k5 : k = 5
            · subst k5
              have HM0 : Hid (M = cmpL (cmp n) (lx.drop 0) (ly.drop 0)) := HM.out
              go_enter Tryd.func14, Tryd.ntmps14
              go_wp2_with fail
              rw [HW.out]
              go_loopw [5] (fun i wr => ∃ j : Nat, j ≤ lx.length ∧ j ≤ ly.length ∧ i = .int .i64 j ∧ Below w1.heap.size w1 wr ∧ Hid (M = cmpL (cmp n) (lx.drop j) (ly.drop j))) (fun i _ => lx.length - (intOf i).toNat)
              case atStart => exact ⟨0, Nat.zero_le _, Nat.zero_le _, rfl, Below.refl _ _, HM0⟩
              case round =>
                obtain ⟨j, hj, hj2, rfl, br, HS2⟩ := hrel
                clear HM0
                have kr := bthen b1 br
                obtain ⟨⟨p0, p1, p2, p3, p4, p5⟩, q0, q1, q2, q3, q4, q5⟩ := HBX.out wr (br.mono (by have := (show w1.heap.size = w.heap.size + 2 by rw [← HW.out]; simp); omega))
                clear p0 p1 p2 p3 p5 q0 q1 q2 q3 q5
                by_cases hlt : j < lx.length
                · by_cases hlt2 : j < ly.length
                  · obtain ⟨x, hx⟩ : ∃ x, lx[j]? = some x := ⟨_, List.getElem?_eq_getElem (by omega)⟩
                    obtain ⟨y, hy⟩ : ∃ y, ly[j]? = some y := ⟨_, List.getElem?_eq_getElem (by omega)⟩
                    obtain ⟨g, p, ds, hA, hg, hr, hxi⟩ := HL.out j x hx
                    obtain ⟨g', p', ds', hA', hg', hr', hyi⟩ := HL'.out j y hy
                    obtain ⟨_, B1, e1, B2, e2, -, rfl, -⟩ := hxi.open
                    obtain ⟨_, B3, e3, B4, e4, -, rfl, -⟩ := hyi.open
                    have hstep := cmpL_drop (cmp n) lx ly j x y hx hy
                    obtain ⟨r, hrr⟩ : ∃ r, r = cmp n x y := ⟨_, rfl⟩
                    have hir : ∀ W, Below w.heap.size w W → Calls Tryd.prog 14 #[.agg #[.int .i64 x.k, .bool x.b, .int .i64 x.i, .string (bs x.s), .slice B1 x.l.length e1, .slice B2 x.o.length e2], .agg #[.int .i64 y.k, .bool y.b, .int .i64 y.i, .string (bs y.s), .slice B3 y.l.length e3, .slice B4 y.o.length e4]] W fun e w' => e = .returned (.int .i64 (cmp n x y)) ∧ Below W.heap.size W w' := fun W hW => IH.out _ _ x y W (hxi.then hW) (hyi.then hW)
                    rw [← hrr] at hstep hir
                    have HI := Lib.hid hir
                    have HX := Lib.hid hstep
                    obtain ⟨a0, a1, a2, a3, a4, a5⟩ := range6 (w := wr) (fun i u hu => (kr.cell (p := ⟨g, p + j * 6 + i, none⟩) hg).trans (hr i u hu))
                    obtain ⟨d0, d1, d2, d3, d4, d5⟩ := range6 (w := wr) (fun i u hu => (kr.cell (p := ⟨g', p' + j * 6 + i, none⟩) hg').trans (hr' i u hu))
                    subst hA hA'
                    have hja : (j : Int) < (lx.length : Int) := by omega
                    have hjb : (j : Int) < (ly.length : Int) := by omega
                    clear hir hstep hrr hx hy hr hr' hxi hyi
                    go_wp2
                    go_still_tail 10, (by kernel_rfl)
                    change wpList _ _ _ _ _ wr.drew
                    have bd : Below w.heap.size w wr.drew := kr.drew
                    have br' : Below w1.heap.size w1 wr.drew := br.drew
                    clear a0 a1 a2 a3 a4 a5 d0 d1 d2 d3 d4 d5 p4 q4
                    go_wp2_with fail
                    ((with_reducible refine (HI.out _ bd).mono ?_); rintro e w7 ⟨rfl, b7⟩)
                    have k7 := bthen bd b7
                    have r7 := bthen br' b7
                    by_cases hr0 : r = 0
                    · have hz : (r != 0) = false := by rw [hr0]; rfl
                      have HS3 : Hid (M = cmpL (cmp n) (lx.drop (j + 1)) (ly.drop (j + 1))) := by rw [HS2.out, HX.out, if_neg (by simp [hr0])]; rfl
                      clear hr0
                      go_wp2
                      go_roundw
                      case rel => exact ⟨j + 1, by omega, by omega, by go_num, r7, HS3⟩
                      case measure => simp [intOf]; omega
                    · have hz : (r != 0) = true := by rw [bne_iff_ne]; omega
                      have HE : Hid (M = r) := by rw [HS2.out, HX.out, if_pos hr0]; rfl
                      clear hr0
                      go_wp2
                      go_ret
                      exact ⟨by rw [HE.out] <;> rfl, k7⟩
                  · have HE : Hid (M = cmpI lx.length ly.length) := by rw [HS2.out, cmpL_end (cmp n) lx ly j (by omega) (by omega) (by omega)]; rfl
                    go_wp2_with fail
                    ((with_reducible refine (refNumbers_any _ _ _).mono ?_); rintro e w7 ⟨rfl, rfl⟩)
                    go_wp2
                    go_ret
                    exact ⟨by rw [HE.out] <;> rfl, kr⟩
                · have HE : Hid (M = cmpI lx.length ly.length) := by rw [HS2.out, cmpL_end (cmp n) lx ly j (by omega) (by omega) (by omega)]; rfl
                  go_wp2_with fail
                  ((with_reducible refine (refNumbers_any _ _ _).mono ?_); rintro e w7 ⟨rfl, rfl⟩)
                  go_wp2
                  go_ret
                  exact ⟨by rw [HE.out] <;> rfl, kr⟩
            · have t5 : (k == 5) = false := by rw [beq_eq_false_iff_ne]; exact k5
              by_cases k6 : k = 6
              · subst k6
                have HM0 : Hid (M = cmpL (cmpM (cmp n)) (ox.drop 0) (oy.drop 0)) := HM.out
                go_enter Tryd.func14, Tryd.ntmps14
                go_wp2_with fail
                rw [HW.out]
                go_loopw [7] (fun i wr => ∃ j : Nat, j ≤ ox.length ∧ j ≤ oy.length ∧ i = .int .i64 j ∧ Below w1.heap.size w1 wr ∧ Hid (M = cmpL (cmpM (cmp n)) (ox.drop j) (oy.drop j))) (fun i _ => ox.length - (intOf i).toNat)
                case atStart => exact ⟨0, Nat.zero_le _, Nat.zero_le _, rfl, Below.refl _ _, HM0⟩
                case round =>
                  obtain ⟨j, hj, hj2, rfl, br, HS2⟩ := hrel
                  clear HM0
                  have kr := bthen b1 br
                  have z1 : w1.heap.size = w.heap.size + 2 := by rw [← HW.out]; simp
                  have Z1 := Lib.hid z1
                  obtain ⟨⟨p0, p1, p2, p3, p4, p5⟩, q0, q1, q2, q3, q4, q5⟩ := HBX.out wr (br.mono (by omega))
                  clear p0 p1 p2 p3 p4 q0 q1 q2 q3 q4 z1
                  by_cases hlt : j < ox.length
                  · by_cases hlt2 : j < oy.length
                    · obtain ⟨x, hx⟩ : ∃ x, ox[j]? = some x := ⟨_, List.getElem?_eq_getElem (by omega)⟩
                      obtain ⟨y, hy⟩ : ∃ y, oy[j]? = some y := ⟨_, List.getElem?_eq_getElem (by omega)⟩
                      obtain ⟨g, p, ds, hA, hg, hr, hxl, hxi⟩ := HO.out j x hx
                      obtain ⟨g', p', ds', hA', hg', hr', hyl, hyi⟩ := HO'.out j y hy
                      obtain ⟨_, B1, e1, B2, e2, -, rfl, -⟩ := hxi.open
                      obtain ⟨_, B3, e3, B4, e4, -, rfl, -⟩ := hyi.open
                      have hstep := cmpL_drop (cmpM (cmp n)) ox oy j x y hx hy
                      have hcm : cmpM (cmp n) x y = if cmpB x.1 y.1 ≠ 0 then cmpB x.1 y.1 else cmp n x.2 y.2 := rfl
                      rw [hcm] at hstep
                      obtain ⟨r, hrr⟩ : ∃ r, r = cmp n x.2 y.2 := ⟨_, rfl⟩
                      obtain ⟨c, hcc⟩ : ∃ c, c = cmpB x.1 y.1 := ⟨_, rfl⟩
                      have hir : ∀ W, Below w.heap.size w W → Calls Tryd.prog 14 #[.agg #[.int .i64 x.2.k, .bool x.2.b, .int .i64 x.2.i, .string (bs x.2.s), .slice B1 x.2.l.length e1, .slice B2 x.2.o.length e2], .agg #[.int .i64 y.2.k, .bool y.2.b, .int .i64 y.2.i, .string (bs y.2.s), .slice B3 y.2.l.length e3, .slice B4 y.2.o.length e4]] W fun e w' => e = .returned (.int .i64 (cmp n x.2 y.2)) ∧ Below W.heap.size W w' := fun W hW => IH.out _ _ x.2 y.2 W (hxi.then hW) (hyi.then hW)
                      have htx := fun W => refTexts_any x.1 y.1 W hxl hyl
                      rw [← hrr] at hstep hir
                      rw [← hcc] at hstep htx
                      have HI := Lib.hid hir
                      have HT := Lib.hid htx
                      have HX := Lib.hid hstep
                      have hrg : ∀ W, Below w.heap.size w W → W.rangeAt g (p + j * 7) _ := fun W hW i u hu => (hW.cell (p := ⟨g, p + j * 7 + i, none⟩) hg).trans (hr i u hu)
                      have hrg' : ∀ W, Below w.heap.size w W → W.rangeAt g' (p' + j * 7) _ := fun W hW i u hu => (hW.cell (p := ⟨g', p' + j * 7 + i, none⟩) hg').trans (hr' i u hu)
                      have HR := Lib.hid hrg
                      have HR' := Lib.hid hrg'
                      obtain ⟨a0, a1, a2, a3, a4, a5, a6⟩ := range7 (HR.out wr kr)
                      obtain ⟨d0, d1, d2, d3, d4, d5, d6⟩ := range7 (HR'.out wr kr)
                      subst hA hA'
                      have hja : (j : Int) < (ox.length : Int) := by omega
                      have hjb : (j : Int) < (oy.length : Int) := by omega
                      clear hir hstep hrr hcc hcm htx hx hy hr hr' hxi hyi hrg hrg' a1 a2 a3 a4 a5 a6 d1 d2 d3 d4 d5 d6
                      go_wp2
                      go_still_tail 12, (by kernel_rfl)
                      change wpList _ _ _ _ _ wr.drew
                      have bd : Below w.heap.size w wr.drew := kr.drew
                      have br' : Below w1.heap.size w1 wr.drew := br.drew
                      clear a0 d0 p5 q5
                      go_wp2_with fail
                      ((with_reducible refine (HT.out _).mono ?_); rintro e w7 ⟨rfl, b7⟩)
                      have k7 := bthen bd b7
                      have r7 := bthen br' b7
                      by_cases hc0 : c = 0
                      · have hzc : (c != 0) = false := by rw [hc0]; rfl
                        have HX2 : Hid (cmpL (cmpM (cmp n)) (ox.drop j) (oy.drop j) = if r ≠ 0 then r else cmpL (cmpM (cmp n)) (ox.drop (j + 1)) (oy.drop (j + 1))) := by
                          rw [HX.out]
                          simp only [hc0, ne_eq, not_true_eq_false, if_false]
                          trivial
                        clear hc0 HX
                        obtain ⟨⟨p0, p1, p2, p3, p4, p5⟩, q0, q1, q2, q3, q4, q5⟩ := HBX.out w7 (r7.mono (by have := Z1.out; omega))
                        clear p0 p1 p2 p3 p4 q0 q1 q2 q3 q4
                        obtain ⟨a0, a1, a2, a3, a4, a5, a6⟩ := range7 (HR.out w7 k7)
                        obtain ⟨d0, d1, d2, d3, d4, d5, d6⟩ := range7 (HR'.out w7 k7)
                        go_wp2
                        go_still_tail 12, (by kernel_rfl)
                        change wpList _ _ _ _ _ w7.drew
                        have bd7 : Below w.heap.size w w7.drew := k7.drew
                        have br7 : Below w1.heap.size w1 w7.drew := r7.drew
                        clear a0 a1 a2 a3 a4 a5 a6 d0 d1 d2 d3 d4 d5 d6 p5 q5
                        go_wp2_with fail
                        ((with_reducible refine (HI.out _ bd7).mono ?_); rintro e w8 ⟨rfl, b8⟩)
                        have k8 := bthen bd7 b8
                        have r8 := bthen br7 b8
                        by_cases hr0 : r = 0
                        · have hz : (r != 0) = false := by rw [hr0]; rfl
                          have HS3 : Hid (M = cmpL (cmpM (cmp n)) (ox.drop (j + 1)) (oy.drop (j + 1))) := by rw [HS2.out, HX2.out, if_neg (by simp [hr0])]; rfl
                          clear hr0
                          go_wp2
                          go_roundw
                          case rel => exact ⟨j + 1, by omega, by omega, by go_num, r8, HS3⟩
                          case measure => simp [intOf]; omega
                        · have hz : (r != 0) = true := by rw [bne_iff_ne]; omega
                          have HE : Hid (M = r) := by rw [HS2.out, HX2.out, if_pos hr0]; rfl
                          clear hr0
                          go_wp2
                          go_ret
                          exact ⟨by rw [HE.out] <;> rfl, k8⟩
                      · have hzc : (c != 0) = true := by rw [bne_iff_ne]; exact hc0
                        have HE : Hid (M = c) := by
                          rw [HS2.out, HX.out]
                          simp only [hc0, ne_eq, not_false_eq_true, if_true]
                          trivial
                        clear hc0 HX
                        go_wp2
                        go_ret
                        exact ⟨by rw [HE.out] <;> rfl, k7⟩
                    · have HE : Hid (M = cmpI ox.length oy.length) := by rw [HS2.out, cmpL_end (cmpM (cmp n)) ox oy j (by omega) (by omega) (by omega)]; rfl
                      go_wp2_with fail
                      ((with_reducible refine (refNumbers_any _ _ _).mono ?_); rintro e w7 ⟨rfl, rfl⟩)
                      go_wp2
                      go_ret
                      exact ⟨by rw [HE.out] <;> rfl, kr⟩
                  · have HE : Hid (M = cmpI ox.length oy.length) := by rw [HS2.out, cmpL_end (cmpM (cmp n)) ox oy j (by omega) (by omega) (by omega)]; rfl
                    go_wp2_with fail
                    ((with_reducible refine (refNumbers_any _ _ _).mono ?_); rintro e w7 ⟨rfl, rfl⟩)
                    go_wp2
                    go_ret
                    exact ⟨by rw [HE.out] <;> rfl, kr⟩
              · have t6 : (k == 6) = false := by rw [beq_eq_false_iff_ne]; exact k6
                have HE : Hid (M = 0) := by rw [HM.out, if_neg k2, if_neg k3, if_neg k4, if_neg k5, if_neg k6]; rfl
                go_enter Tryd.func14, Tryd.ntmps14
                go_wp2
                go_ret
                refine ⟨by rw [HE.out] <;> rfl, ?_⟩
                go_grown
    · rw [cmp_other hkk] at hM
      have hkb : (x.k != y.k) = true := by rw [bne_iff_ne]; exact hkk
      have HM := Lib.hid hM
      have HW := Lib.hid hw1
      clear cs hM hkk hbox hw1
      go_enter Tryd.func14, Tryd.ntmps14
      go_wp2_with fail
      rw [HW.out]
      ((with_reducible refine (refNumbers_any _ _ _).mono ?_); rintro e w2 ⟨rfl, rfl⟩)
      go_wp2
      go_ret
      exact ⟨by rw [HM.out] <;> rfl, b1⟩
end Go.Proofs.YthaikagelloeoaaDoor
