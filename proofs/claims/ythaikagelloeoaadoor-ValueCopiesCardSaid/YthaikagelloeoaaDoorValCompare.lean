import Derived.Test.YthaikagelloeoaaDoorValCmp
namespace Go.Proofs.YthaikagelloeoaaDoor
open Go.RowKit Val

set_option maxRecDepth 100000 in
set_option maxHeartbeats 4000000 in
theorem compare_any : ∀ (n : Nat) (cs cs' : List Value) (v v' : Val) (w : World), VIn w w.heap.size n cs v → VIn w w.heap.size n cs' v' →
    Calls Tryd.prog 16 #[.agg cs.toArray, .agg cs'.toArray] w fun e w' => e = .returned (.int .i64 (cmp n v v')) ∧ Below w.heap.size w w' := by
  intro n
  induction n with
  | zero => intro cs cs' v v' w h; exact absurd h (by simp [VIn])
  | succ n ih =>
    intro cs cs' x y w hx hy
    obtain ⟨m, A1, c1, A2, c2, e, rfl, hk, hi, hs, hl, ho, hc1, hc2, hL, hO⟩ := hx.open
    obtain rfl : n = m := by omega
    obtain ⟨m, A3, c3, A4, c4, e, rfl, hk', hi', hs', hl', ho', hc3, hc4, hL', hO'⟩ := hy.open
    obtain rfl : n = m := by omega
    obtain ⟨M, hM⟩ : ∃ M, M = cmp (n + 1) x y := ⟨_, rfl⟩
    rw [← hM]
    have b2 : Below w.heap.size w ((w.alloc (.cells #[.int .i64 x.k, .bool x.b, .int .i64 x.i, .string (bs x.s), .slice A1 x.l.length c1, .slice A2 x.o.length c2] 26)).alloc (.cells #[.int .i64 y.k, .bool y.b, .int .i64 y.i, .string (bs y.s), .slice A3 y.l.length c3, .slice A4 y.o.length c4] 26)) := ((Below.refl _ w).alloc (Nat.le_refl _) _).alloc (by simp) _
    have cl : ∀ W, Below w.heap.size w W → Calls Tryd.prog 42 #[.slice A1 x.l.length c1, .slice A3 y.l.length c3, .func (.func 16) #[] #[]] W fun e w' => e = .returned (.int .i64 (cmpL (cmp n) x.l y.l)) ∧ Below W.heap.size W w' := fun W hW => by
      refine lists_val n A1 A3 x.l y.l c1 c3 W ?_ ?_ hl hl' ih
      · intro j v hv
        obtain ⟨g, p, ds, e1, e2, e3, e4⟩ := hL j v hv
        exact ⟨g, p, ds, e1, by have := hW.size; omega, fun i u hu => (hW.cell (p := ⟨g, p + j * 6 + i, none⟩) e2).trans (e3 i u hu), e4.then hW⟩
      · intro j v hv
        obtain ⟨g, p, ds, e1, e2, e3, e4⟩ := hL' j v hv
        exact ⟨g, p, ds, e1, by have := hW.size; omega, fun i u hu => (hW.cell (p := ⟨g, p + j * 6 + i, none⟩) e2).trans (e3 i u hu), e4.then hW⟩
    have co : ∀ W, Below w.heap.size w W → Calls Tryd.prog 43 #[.slice A2 x.o.length c2, .slice A4 y.o.length c4, .func (.func 44) #[] #[]] W fun e w' => e = .returned (.int .i64 (cmpL (cmpM (cmp n)) x.o y.o)) ∧ Below W.heap.size W w' := fun W hW => by
      refine lists_mem n A2 A4 x.o y.o c2 c4 W ?_ ?_ ho ho' (fun cs cs' v v' W h1 h2 => cmpMem_any n ih cs cs' v v' W h1 h2)
      · intro j v hv
        obtain ⟨g, p, ds, e1, e2, e3, e5, e4⟩ := hO j v hv
        exact ⟨g, p, ds, e1, by have := hW.size; omega, fun i u hu => (hW.cell (p := ⟨g, p + j * 7 + i, none⟩) e2).trans (e3 i u hu), e5, e4.then hW⟩
      · intro j v hv
        obtain ⟨g, p, ds, e1, e2, e3, e5, e4⟩ := hO' j v hv
        exact ⟨g, p, ds, e1, by have := hW.size; omega, fun i u hu => (hW.cell (p := ⟨g, p + j * 7 + i, none⟩) e2).trans (e3 i u hu), e5, e4.then hW⟩
    have cs := fun W => cmpStr_any (bs x.s) (bs y.s) W
    rw [bs_toList, bs_toList] at cs
    have hM1 := hM
    by_cases hkk : x.k = y.k
    · rw [cmp_same hkk] at hM
      unfold same at hM
      have hkb : (x.k != y.k) = false := by rw [hkk]; simp
      obtain ⟨lx, hlx⟩ : ∃ l, l = x.l := ⟨_, rfl⟩
      obtain ⟨ly, hly⟩ : ∃ l, l = y.l := ⟨_, rfl⟩
      obtain ⟨ox, hox⟩ : ∃ l, l = x.o := ⟨_, rfl⟩
      obtain ⟨oy, hoy⟩ : ∃ l, l = y.o := ⟨_, rfl⟩
      obtain ⟨sx, hsx⟩ : ∃ l, l = bs x.s := ⟨_, rfl⟩
      obtain ⟨sy, hsy⟩ : ∃ l, l = bs y.s := ⟨_, rfl⟩
      obtain ⟨ix, hix⟩ : ∃ l, l = x.i := ⟨_, rfl⟩
      obtain ⟨iy, hiy⟩ : ∃ l, l = y.i := ⟨_, rfl⟩
      obtain ⟨bx, hbx⟩ : ∃ l, l = x.b := ⟨_, rfl⟩
      obtain ⟨by', hby⟩ : ∃ l, l = y.b := ⟨_, rfl⟩
      obtain ⟨K, hK⟩ : ∃ l, l = x.k := ⟨_, rfl⟩
      rw [← hK] at hM hkk b2 ⊢
      obtain rfl : K = y.k := hkk
      rw [← hlx, ← hox, ← hsx, ← hix, ← hbx, ← hly, ← hoy, ← hsy, ← hiy, ← hby] at b2 ⊢
      rw [← hlx, ← hly] at cl hM
      rw [← hox, ← hoy] at co hM
      rw [← hsx, ← hsy] at cs
      rw [← hix, ← hiy, ← hbx, ← hby] at hM
      have HM := Lib.hid hM
      obtain ⟨k, hkn⟩ : ∃ k, k = y.k := ⟨_, rfl⟩
      rw [← hkn] at b2 HM ⊢
      have HL := Lib.hid cl
      have HO := Lib.hid co
      have HS := Lib.hid cs
      have HB2 := Lib.hid b2
      clear cl co cs hM hM1 hkb hlx hly hox hoy hsx hsy hix hiy hbx hby hK hkn hL hO hL' hO' ih hx hy hk hk' hi hi' hs hs' b2
      by_cases k2 : k = 2
      · subst k2
        have HE : Hid (M = cmpI (num bx) (num by')) := HM.out
        go_enter Tryd.func16, Tryd.ntmps16
        go_wp2_with fail
        go_region_with (first | (go_at_call 39; refine (number_any _ _).mono ?_; rintro e w' ⟨rfl, rfl⟩))
        all_goals
          go_wp2_with fail
          ((with_reducible refine (cmpI64_any _ _ _).mono ?_); rintro e w1 ⟨rfl, rfl⟩)
          go_wp2
          go_ret
          refine ⟨by rw [HE.out] <;> rfl, ?_⟩
          go_grown
      · have t2 : (k == 2) = false := by rw [beq_eq_false_iff_ne]; exact k2
        by_cases k3 : k = 3
        · subst k3
          have HE : Hid (M = cmpI ix iy) := HM.out
          go_enter Tryd.func16, Tryd.ntmps16
          go_wp2_with fail
          ((with_reducible refine (cmpI64_any _ _ _).mono ?_); rintro e w1 ⟨rfl, rfl⟩)
          go_wp2
          go_ret
          exact ⟨by rw [HE.out] <;> rfl, HB2.out⟩
        · have t3 : (k == 3) = false := by rw [beq_eq_false_iff_ne]; exact k3
          by_cases k4 : k = 4
          · subst k4
            have HE : Hid (M = cmpB x.s y.s) := HM.out
            go_enter Tryd.func16, Tryd.ntmps16
            go_wp2_with fail
            ((with_reducible refine (HS.out _).mono ?_); rintro e w1 ⟨rfl, rfl⟩)
            go_wp2
            go_ret
            exact ⟨by rw [HE.out] <;> rfl, HB2.out⟩
          · have t4 : (k == 4) = false := by rw [beq_eq_false_iff_ne]; exact k4
            by_cases k5 : k = 5
            · subst k5
              have HE : Hid (M = cmpL (cmp n) lx ly) := HM.out
              go_enter Tryd.func16, Tryd.ntmps16
              go_wp2_with fail
              ((with_reducible refine (HL.out _ HB2.out).mono ?_); rintro e w1 ⟨rfl, b1⟩)
              have b3 := bthen HB2.out b1
              go_wp2
              go_ret
              exact ⟨by rw [HE.out] <;> rfl, b3⟩
            · have t5 : (k == 5) = false := by rw [beq_eq_false_iff_ne]; exact k5
              by_cases k6 : k = 6
              · subst k6
                have HE : Hid (M = cmpL (cmpM (cmp n)) ox oy) := HM.out
                go_enter Tryd.func16, Tryd.ntmps16
                go_wp2_with fail
                ((with_reducible refine (HO.out _ HB2.out).mono ?_); rintro e w1 ⟨rfl, b1⟩)
                have b3 := bthen HB2.out b1
                go_wp2
                go_ret
                exact ⟨by rw [HE.out] <;> rfl, b3⟩
              · have t6 : (k == 6) = false := by rw [beq_eq_false_iff_ne]; exact k6
                have HE : Hid (M = 0) := by rw [HM.out, if_neg k2, if_neg k3, if_neg k4, if_neg k5, if_neg k6]; rfl
                go_enter Tryd.func16, Tryd.ntmps16
                go_wp2
                go_ret
                exact ⟨by rw [HE.out] <;> rfl, HB2.out⟩
    · rw [cmp_other hkk] at hM
      have hkb : (x.k != y.k) = true := by rw [bne_iff_ne]; exact hkk
      have HM := Lib.hid hM
      clear cl co cs hM hM1 hkk
      go_enter Tryd.func16, Tryd.ntmps16
      go_wp2_with fail
      ((with_reducible refine (cmpKind_any _ _ _).mono ?_); rintro e w1 ⟨rfl, rfl⟩)
      go_wp2
      go_ret
      exact ⟨by rw [HM.out] <;> rfl, b2⟩

theorem same_val (n : Nat) (cs cs' : List Value) (v v' : Val) (w : World) (h1 : VIn w w.heap.size n cs v) (h2 : VIn w w.heap.size n cs' v') :
    Calls Tryd.prog 17 #[.agg cs.toArray, .agg cs'.toArray] w fun e w' => e = .returned (.bool (cmp n v v' == 0)) ∧ Below w.heap.size w w' := by
  obtain ⟨_, B1, e1, B2, e2, -, rfl, -⟩ := h1.open
  obtain ⟨_, B3, e3, B4, e4, -, rfl, -⟩ := h2.open
  have hc : ∀ W, Below w.heap.size w W → Calls Tryd.prog 16 _ W _ := fun W hW => compare_any n _ _ v v' W (h1.then hW) (h2.then hW)
  obtain ⟨r, hr⟩ : ∃ r, r = cmp n v v' := ⟨_, rfl⟩
  rw [← hr] at hc ⊢
  have HC := Lib.hid hc
  have b2 : Below w.heap.size w ((w.alloc (.cells #[.int .i64 v.k, .bool v.b, .int .i64 v.i, .string (bs v.s), .slice B1 v.l.length e1, .slice B2 v.o.length e2] 26)).alloc (.cells #[.int .i64 v'.k, .bool v'.b, .int .i64 v'.i, .string (bs v'.s), .slice B3 v'.l.length e3, .slice B4 v'.o.length e4] 26)) := ((Below.refl _ w).alloc (Nat.le_refl _) _).alloc (by simp) _
  clear hc hr h1 h2
  go_enter Tryd.func17, Tryd.ntmps17
  go_wp2_with fail
  ((with_reducible refine (HC.out _ b2).mono ?_); rintro e w1 ⟨rfl, b1⟩)
  have b3 := bthen b2 b1
  go_wp2
  go_ret
  exact ⟨rfl, b3⟩
end Go.Proofs.YthaikagelloeoaaDoor
