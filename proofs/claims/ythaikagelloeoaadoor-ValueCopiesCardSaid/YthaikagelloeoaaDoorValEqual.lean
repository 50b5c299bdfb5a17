import Derived.Test.YthaikagelloeoaaDoorValChain
import Derived.Test.YthaikagelloeoaaDoorValFit
import Derived.Deep.RegionHeld3
namespace Go.Proofs.YthaikagelloeoaaDoor
open Go.RowKit Val

set_option maxRecDepth 100000 in
set_option maxHeartbeats 8000000 in
theorem refEqual_any : ∀ (n : Nat) (cs cs' : List Value) (v : Val) (w : World), VIn w w.heap.size n cs v → VIn w w.heap.size n cs' v →
    Calls Tryd.prog 20 #[.agg cs.toArray, .agg cs'.toArray] w fun e w' => e = .returned (.bool true) ∧ Below w.heap.size w w' := by
  intro n
  induction n with
  | zero => intro cs cs' v w h; exact absurd h (by simp [VIn])
  | succ n ih =>
    intro cs cs' v w hv hv'
    obtain ⟨m, A1, c1, A2, c2, e, rfl, _, _, hs, hl, ho, _, _, hL, hO⟩ := hv.open
    obtain rfl : n = m := by omega
    obtain ⟨m, A3, c3, A4, c4, e, rfl, _, _, _, _, _, _, _, hL', hO'⟩ := hv'.open
    obtain rfl : n = m := by omega
    obtain ⟨w1, hw1⟩ : ∃ w1, (w.alloc (.cells #[.int .i64 v.k, .bool v.b, .int .i64 v.i, .string (bs v.s), .slice A1 v.l.length c1, .slice A2 v.o.length c2] 26)).alloc (.cells #[.int .i64 v.k, .bool v.b, .int .i64 v.i, .string (bs v.s), .slice A3 v.l.length c3, .slice A4 v.o.length c4] 26) = w1 := ⟨_, rfl⟩
    have b1 : Below w.heap.size w w1 := by rw [← hw1]; exact ((Below.refl _ w).alloc (Nat.le_refl _) _).alloc (by simp) _
    have z1 : w1.heap.size = w.heap.size + 2 := by rw [← hw1]; simp
    have hbox : Hid (∀ W, Below w1.heap.size w1 W → _) := fun W hW => by
      rw [z1, ← hw1] at hW
      exact box66 hW
    obtain ⟨⟨q0, q1, q2, q3, q4, q5⟩, p0, p1, p2, p3, p4, p5⟩ := hbox.out w1 (Below.refl _ _)
    have HW := Lib.hid hw1
    have IH := Lib.hid ih
    have HL := Lib.hid hL
    have HO := Lib.hid hO
    have HL' := Lib.hid hL'
    have HO' := Lib.hid hO'
    have hfin : Hid (∀ W, Below w1.heap.size w1 W → Below w.heap.size w W) := fun W hW => bthen b1 hW
    clear hv hv' hw1 ih hL hO hL' hO' e
    go_enter Tryd.func20, Tryd.ntmps20
    go_wp2_with fail
    rw [HW.out]
    go_wp2_with fail
    go_loopw [5] (fun i wr => ∃ j : Nat, j ≤ v.l.length ∧ i = .int .i64 j ∧ Below w1.heap.size w1 wr) (fun i _ => v.l.length - (intOf i).toNat)
    case atStart => exact ⟨0, Nat.zero_le _, rfl, Below.refl _ _⟩
    case round =>
      obtain ⟨j, hj, rfl, hb⟩ := hrel
      clear q0 q1 q2 q3 q4 q5 p0 p1 p2 p3 p4 p5
      obtain ⟨⟨-, -, -, -, q4, q5⟩, -, -, -, -, p4, p5⟩ := hbox.out wr hb
      by_cases hlt : j < v.l.length
      · obtain ⟨x, hx⟩ : ∃ x, v.l[j]? = some x := ⟨_, List.getElem?_eq_getElem hlt⟩
        obtain ⟨g, p, ds, hA, hg, hr, hxi⟩ := HL.out j x hx
        obtain ⟨g', p', ds', hA', hg', hr', hxi'⟩ := HL'.out j x hx
        have HI := Lib.hid fun W (hW : Below w1.heap.size w1 W) => (IH.out ds ds' x W (hxi.then (hfin.out W hW)) (hxi'.then (hfin.out W hW))).mono (R' := fun e w' => e = .returned (.bool true) ∧ Below w1.heap.size w1 w') fun e w' ⟨he, hb⟩ => ⟨he, bthen hW hb⟩
        obtain ⟨_, B1, e1, B2, e2, -, rfl, -⟩ := hxi.open
        obtain ⟨_, B3, e3, B4, e4, -, rfl, -⟩ := hxi'.open
        have HE := Lib.hid fun W (hW : Below w1.heap.size w1 W) => range6 (w := W) (fun i u hu => ((hfin.out W hW).cell (p := ⟨g, p + j * 6 + i, none⟩) hg).trans (hr i u hu))
        have HE' := Lib.hid fun W (hW : Below w1.heap.size w1 W) => range6 (w := W) (fun i u hu => ((hfin.out W hW).cell (p := ⟨g', p' + j * 6 + i, none⟩) hg').trans (hr' i u hu))
        obtain ⟨a0, a1, a2, a3, a4, a5⟩ := HE.out wr hb
        obtain ⟨d0, d1, d2, d3, d4, d5⟩ := HE'.out wr hb
        subst hA hA'
        clear hx hr hr' hxi hxi'
        go_wp2_with fail
        go_region_held3 (fun w' => (w'.cell? ⟨w.heap.size, 4, none⟩ = some (.slice (some ⟨g, p, none⟩) v.l.length c1) ∧ w'.cell? ⟨w.heap.size + 1, 4, none⟩ = some (.slice (some ⟨g', p', none⟩) v.l.length c3)) ∧ (w'.cell? ⟨g, p + j * 6, none⟩ = some (.int .i64 x.k) ∧ w'.cell? ⟨g, p + j * 6 + 1, none⟩ = some (.bool x.b) ∧ w'.cell? ⟨g, p + j * 6 + 2, none⟩ = some (.int .i64 x.i) ∧ w'.cell? ⟨g, p + j * 6 + 3, none⟩ = some (.string (bs x.s)) ∧ w'.cell? ⟨g, p + j * 6 + 4, none⟩ = some (.slice B1 x.l.length e1) ∧ w'.cell? ⟨g, p + j * 6 + 5, none⟩ = some (.slice B2 x.o.length e2)) ∧
            (w'.cell? ⟨g', p' + j * 6, none⟩ = some (.int .i64 x.k) ∧ w'.cell? ⟨g', p' + j * 6 + 1, none⟩ = some (.bool x.b) ∧ w'.cell? ⟨g', p' + j * 6 + 2, none⟩ = some (.int .i64 x.i) ∧ w'.cell? ⟨g', p' + j * 6 + 3, none⟩ = some (.string (bs x.s)) ∧ w'.cell? ⟨g', p' + j * 6 + 4, none⟩ = some (.slice B3 x.l.length e3) ∧ w'.cell? ⟨g', p' + j * 6 + 5, none⟩ = some (.slice B4 x.o.length e4)))
          (first | exact ⟨⟨(hbox.out _ (by assumption)).1.2.2.2.2.1, (hbox.out _ (by assumption)).2.2.2.2.2.1⟩, HE.out _ (by assumption), HE'.out _ (by assumption)⟩ | go_keep)
          (first | (go_at_call 20; (with_reducible refine (HI.out _ (by first | assumption | exact Below.drew (by assumption))).mono ?_); rintro e wa ⟨rfl, hb1⟩))
        clear a0 a1 a2 a3 a4 a5 d0 d1 d2 d3 d4 d5 q4 q5 p4 p5 HE HE' HI
        go_wp2
        go_roundw
        case rel => exact ⟨j + 1, by omega, by go_num, hb1⟩
        case measure => simp [intOf]; omega
      · clear HL HL'
        obtain ⟨wm, hwm⟩ : ∃ wm, wm = wr := ⟨_, rfl⟩
        subst hwm
        go_wp2_with fail
        go_loopw [6] (fun i wr => ∃ j : Nat, j ≤ v.o.length ∧ i = .int .i64 j ∧ Below w1.heap.size w1 wr) (fun i _ => v.o.length - (intOf i).toNat)
        case atStart => exact ⟨0, Nat.zero_le _, rfl, hb⟩
        case round =>
          clear q4 q5 p4 p5 hlt hj hb
          obtain ⟨j, hj, rfl, hb⟩ := hrel
          obtain ⟨⟨-, -, -, -, -, q5⟩, -, -, -, -, -, p5⟩ := hbox.out wr hb
          by_cases hlt : j < v.o.length
          · obtain ⟨x, hx⟩ : ∃ x, v.o[j]? = some x := ⟨_, List.getElem?_eq_getElem hlt⟩
            obtain ⟨g, p, ds, hA, hg, hr, hkl, hxi⟩ := HO.out j x hx
            obtain ⟨g', p', ds', hA', hg', hr', _, hxi'⟩ := HO'.out j x hx
            obtain ⟨xk, x⟩ := x
            have HI := Lib.hid fun W (hW : Below w1.heap.size w1 W) => (IH.out ds ds' x W (hxi.then (hfin.out W hW)) (hxi'.then (hfin.out W hW))).mono (R' := fun e w' => e = .returned (.bool true) ∧ Below w1.heap.size w1 w') fun e w' ⟨he, hb⟩ => ⟨he, bthen hW hb⟩
            obtain ⟨_, B1, e1, B2, e2, -, rfl, -⟩ := hxi.open
            obtain ⟨_, B3, e3, B4, e4, -, rfl, -⟩ := hxi'.open
            have HE := Lib.hid fun W (hW : Below w1.heap.size w1 W) => range7 (w := W) (fun i u hu => ((hfin.out W hW).cell (p := ⟨g, p + j * 7 + i, none⟩) hg).trans (hr i u hu))
            have HE' := Lib.hid fun W (hW : Below w1.heap.size w1 W) => range7 (w := W) (fun i u hu => ((hfin.out W hW).cell (p := ⟨g', p' + j * 7 + i, none⟩) hg').trans (hr' i u hu))
            obtain ⟨a0, a1, a2, a3, a4, a5, a6⟩ := HE.out wr hb
            obtain ⟨d0, d1, d2, d3, d4, d5, d6⟩ := HE'.out wr hb
            subst hA hA'
            clear hx hr hr' hxi hxi' hkl
            go_wp2_with fail
            go_region_held3 (fun w' => (w'.cell? ⟨w.heap.size, 5, none⟩ = some (.slice (some ⟨g, p, none⟩) v.o.length c2) ∧ w'.cell? ⟨w.heap.size + 1, 5, none⟩ = some (.slice (some ⟨g', p', none⟩) v.o.length c4)) ∧ (w'.cell? ⟨g, p + j * 7, none⟩ = some (.string (bs xk)) ∧ w'.cell? ⟨g, p + j * 7 + 1, none⟩ = some (.int .i64 x.k) ∧ w'.cell? ⟨g, p + j * 7 + 2, none⟩ = some (.bool x.b) ∧ w'.cell? ⟨g, p + j * 7 + 3, none⟩ = some (.int .i64 x.i) ∧ w'.cell? ⟨g, p + j * 7 + 4, none⟩ = some (.string (bs x.s)) ∧ w'.cell? ⟨g, p + j * 7 + 5, none⟩ = some (.slice B1 x.l.length e1) ∧ w'.cell? ⟨g, p + j * 7 + 6, none⟩ = some (.slice B2 x.o.length e2)) ∧
                (w'.cell? ⟨g', p' + j * 7, none⟩ = some (.string (bs xk)) ∧ w'.cell? ⟨g', p' + j * 7 + 1, none⟩ = some (.int .i64 x.k) ∧ w'.cell? ⟨g', p' + j * 7 + 2, none⟩ = some (.bool x.b) ∧ w'.cell? ⟨g', p' + j * 7 + 3, none⟩ = some (.int .i64 x.i) ∧ w'.cell? ⟨g', p' + j * 7 + 4, none⟩ = some (.string (bs x.s)) ∧ w'.cell? ⟨g', p' + j * 7 + 5, none⟩ = some (.slice B3 x.l.length e3) ∧ w'.cell? ⟨g', p' + j * 7 + 6, none⟩ = some (.slice B4 x.o.length e4)))
              (first | exact ⟨⟨(hbox.out _ (by assumption)).1.2.2.2.2.2, (hbox.out _ (by assumption)).2.2.2.2.2.2⟩, HE.out _ (by assumption), HE'.out _ (by assumption)⟩ | go_keep)
              (first | (go_at_call 20; (with_reducible refine (HI.out _ (by first | assumption | exact Below.drew (by assumption))).mono ?_); rintro e wa ⟨rfl, hb1⟩))
            clear a0 a1 a2 a3 a4 a5 a6 d0 d1 d2 d3 d4 d5 d6 q5 p5 HE HE' HI
            go_wp2
            go_roundw
            case rel => exact ⟨j + 1, by omega, by go_num, hb1⟩
            case measure => simp [intOf]; omega
          · clear HO HO'
            go_wp2
            go_ret
            exact ⟨rfl, hfin.out wr hb⟩
end Go.Proofs.YthaikagelloeoaaDoor
