import Derived.Test.YthaikagelloeoaaDoorValMay
namespace Go.Proofs.YthaikagelloeoaaDoor
open Go.RowKit Val

def prevS {α : Type} (l : List (List UInt8 × α)) (j : Nat) : ByteArray := match prevK l j with | none => ⟨#[]⟩ | some q => bs q

set_option maxRecDepth 100000 in
set_option maxHeartbeats 4000000 in
theorem refMay_any' : ∀ (n : Nat) (cs : List Value) (v : Val) (d : Int) (w : World), VIn w w.heap.size n cs v → Tabs w → 0 ≤ d → d ≤ 65 →
    Calls Tryd.prog 32 #[.agg cs.toArray, .int .i64 d] w fun e w' => e = .returned (.int .i64 (may n v d.toNat : Nat)) ∧ Below w.heap.size w w' := by
  intro n
  induction n with
  | zero => intro cs v d w h; exact absurd h (by simp [VIn])
  | succ n ih =>
    intro cs v d w hv hT hd0 hd
    obtain ⟨m, A1, c1, A2, c2, e, rfl, hk, hi, hs, hl, ho, hc1, hc2, hL, hO⟩ := hv.open
    obtain rfl : n = m := by omega
    have IH := Lib.hid ih
    obtain ⟨M, hM⟩ : ∃ M, M = may (n + 1) v d.toNat := ⟨_, rfl⟩
    rw [← hM]
    have hbare : v.bare = bareB v.k v.b v.i (bs v.s).size v.l.length v.o.length := by rw [bs_size]; rfl
    have hd1 : (d + 1).toNat = d.toNat + 1 := by omega
    rw [may, ← hd1] at hM
    obtain ⟨f, hf⟩ : ∃ f : Val → Nat, f = fun w => may n w (d + 1).toNat := ⟨_, rfl⟩
    rw [← hf] at hM
    have HF : Hid (∀ x, f x = may n x (d + 1).toNat) := fun x => by rw [hf]
    have hd64 : (64 < d.toNat) ↔ (64 < d) := by omega
    simp only [hd64] at hM
    have HV : Hid (∀ W, Tabs W → Calls Tryd.prog 56 #[.string (bs v.s)] W fun e w' => e = .returned (.bool (Lib.validD v.s)) ∧ Below W.heap.size W w') := fun W _ => by
      have := refValid_any (bs v.s) W (by rw [bs_size]; omega)
      rw [bs_data] at this
      exact this.mono fun e w' ⟨he, hw⟩ => ⟨he, by rw [hw]; exact Below.refl _ _⟩
    have cb := fun W => refBare_any v.k v.i v.b (bs v.s) A1 A2 v.l.length c1 v.o.length c2 W
    rw [← hbare] at cb
    have HB := Lib.hid cb
    obtain ⟨w1, hw1⟩ : ∃ w1, w.alloc (.cells #[.int .i64 v.k, .bool v.b, .int .i64 v.i, .string (bs v.s), .slice A1 v.l.length c1, .slice A2 v.o.length c2] 26) = w1 := ⟨_, rfl⟩
    have b1 : Below w.heap.size w w1 := by rw [← hw1]; exact (Below.refl _ w).alloc (Nat.le_refl _) _
    have z1 : w1.heap.size = w.heap.size + 1 := by rw [← hw1]; exact World.size_alloc _ _
    have hbox : Hid (∀ W, Below (w.heap.size + 1) w1 W → W.cell? ⟨w.heap.size, 0, none⟩ = some (.int .i64 v.k) ∧ W.cell? ⟨w.heap.size, 1, none⟩ = some (.bool v.b) ∧ W.cell? ⟨w.heap.size, 2, none⟩ = some (.int .i64 v.i) ∧ W.cell? ⟨w.heap.size, 3, none⟩ = some (.string (bs v.s)) ∧ W.cell? ⟨w.heap.size, 4, none⟩ = some (.slice A1 v.l.length c1) ∧ W.cell? ⟨w.heap.size, 5, none⟩ = some (.slice A2 v.o.length c2)) := fun W hW => by
      rw [← hw1] at hW
      exact box6 hW
    have HW := Lib.hid hw1
    have HL := Lib.hid hL
    have HO := Lib.hid hO
    obtain ⟨s, hs⟩ : ∃ s, s = bs v.s := ⟨_, rfl⟩
    rw [← hs] at HV HB HW hbox ⊢
    generalize v.bare = B at HB hM
    generalize Lib.validD v.s = V at HV hM
    obtain ⟨ll, hll⟩ : ∃ ll, ll = v.l := ⟨_, rfl⟩
    obtain ⟨lo, hlo⟩ : ∃ lo, lo = v.o := ⟨_, rfl⟩
    obtain ⟨k, hkk⟩ : ∃ k, k = v.k := ⟨_, rfl⟩
    obtain ⟨i, hii⟩ : ∃ k, k = v.i := ⟨_, rfl⟩
    obtain ⟨b, hbb⟩ : ∃ k, k = v.b := ⟨_, rfl⟩
    rw [← hll] at HL hl hc1 hM HB HW hbox ⊢
    rw [← hlo] at HO ho hc2 hM HB HW hbox ⊢
    rw [← hkk, ← hii, ← hbb] at HB HW hbox ⊢
    have HM := Lib.hid hM
    clear hM cb hf hd1 hd64 hbare hw1 hL hO ih hs hll hlo hkk hii hbb hk hi hv
    cases B with
    | false =>
      have HE : Hid (M = 9) := by rw [HM.out]; rfl
      go_enter Tryd.func32, Tryd.ntmps32
      go_wp2_with fail
      rw [HW.out]
      ((with_reducible refine (HB.out _).mono ?_); rintro e w2 ⟨rfl, b2⟩)
      have k2 := b1.trans (b2.mono b1.size)
      go_wp2
      go_ret
      exact ⟨by rw [HE.out] <;> rfl, k2⟩
    | true =>
      by_cases h64 : 64 < d
      · have HE : Hid (M = 5) := by rw [HM.out, if_neg (by simp), if_pos h64]; rfl
        go_enter Tryd.func32, Tryd.ntmps32
        go_wp2_with fail
        rw [HW.out]
        ((with_reducible refine (HB.out _).mono ?_); rintro e w2 ⟨rfl, b2⟩)
        have k2 := b1.trans (b2.mono b1.size)
        go_wp2
        go_ret
        exact ⟨by rw [HE.out] <;> rfl, k2⟩
      · have h64' : d ≤ 64 := by omega
        cases V with
        | false =>
          have HE : Hid (M = 3) := by rw [HM.out, if_neg (by simp), if_neg h64, if_pos rfl]; rfl
          clear h64
          go_enter Tryd.func32, Tryd.ntmps32
          go_wp2_with fail
          rw [HW.out]
          ((with_reducible refine (HB.out _).mono ?_); rintro e w2 ⟨rfl, b2⟩)
          have k2 := b1.trans (b2.mono b1.size)
          obtain ⟨q0, q1, q2, q3, q4, q5⟩ := hbox.out w2 (b2.mono (by omega))
          go_wp2_with fail
          ((with_reducible refine (HV.out _ (tabs_below hT k2)).mono ?_); rintro e w3 ⟨rfl, b3⟩)
          have k3 := bthen k2 b3
          go_wp2
          go_ret
          exact ⟨by rw [HE.out] <;> rfl, k3⟩
        | true =>
          have HE1 : Hid (firstE f ll ≠ 0 → M = firstE f ll) := fun h => by rw [HM.out, if_neg (by simp), if_neg h64, if_neg (by simp), if_pos h]
          have HE2 : Hid (firstE f ll = 0 → M = objE f none lo) := fun h => by rw [HM.out, if_neg (by simp), if_neg h64, if_neg (by simp), if_neg (by simp [h])]
          have HS0 : Hid (firstE f ll = firstE f (ll.drop 0)) := rfl
          clear h64 HM
          go_enter Tryd.func32, Tryd.ntmps32
          go_wp2_with fail
          rw [HW.out]
          ((with_reducible refine (HB.out _).mono ?_); rintro e w2 ⟨rfl, b2⟩)
          have k2 := b1.trans (b2.mono b1.size)
          obtain ⟨q0, q1, q2, q3, q4, q5⟩ := hbox.out w2 (b2.mono (by omega))
          go_wp2_with fail
          ((with_reducible refine (HV.out _ (tabs_below hT k2)).mono ?_); rintro e w3 ⟨rfl, b3⟩)
          have k3 := bthen k2 b3
          have m3 : Below (w.heap.size + 1) w1 w3 := (b2.mono (by omega)).trans (b3.mono (by have := b2.size; omega))
          clear q0 q1 q2 q3 q4 q5
          go_wp2_with fail
          go_loopw [5] (fun i wr => ∃ j : Nat, j ≤ ll.length ∧ i = .int .i64 j ∧ Below w3.heap.size w3 wr ∧ Hid (firstE f ll = firstE f (ll.drop j))) (fun i _ => ll.length - (intOf i).toNat)
          case atStart => exact ⟨0, Nat.zero_le _, rfl, Below.refl _ _, HS0⟩
          case round =>
            obtain ⟨j, hj, rfl, br, HS⟩ := hrel
            clear HS0
            have kr := bthen k3 br
            have mr : Below (w.heap.size + 1) w1 wr := m3.trans (br.mono (by have := m3.size; omega))
            obtain ⟨q0, q1, q2, q3, q4, q5⟩ := hbox.out wr mr
            clear q0 q1 q2 q3
            by_cases hlt : j < ll.length
            · obtain ⟨x, hx⟩ : ∃ x, ll[j]? = some x := ⟨_, List.getElem?_eq_getElem hlt⟩
              obtain ⟨g, p, ds, hA, hg, hr, hxi⟩ := HL.out j x hx
              obtain ⟨_, B1, e1, B2, e2, _, rfl, _⟩ := hxi.open
              have hstep := firstE_drop f ll j x hx
              rw [HF.out x] at hstep
              have hr2 : wr.rangeAt g (p + j * 6) _ := fun i u hu => (kr.cell (p := ⟨g, p + j * 6 + i, none⟩) hg).trans (hr i u hu)
              have hir : ∀ W, Below w.heap.size w W → Calls Tryd.prog 32 #[.agg #[.int .i64 x.k, .bool x.b, .int .i64 x.i, .string (bs x.s), .slice B1 x.l.length e1, .slice B2 x.o.length e2], .int .i64 (d + 1)] W fun e w' => e = .returned (.int .i64 (may n x (d + 1).toNat : Nat)) ∧ Below W.heap.size W w' := fun W hW => IH.out _ x (d + 1) W (hxi.then hW) (tabs_below hT hW) (by omega) (by omega)
              have HI := Lib.hid hir
              obtain ⟨r, hrr⟩ : ∃ r, r = may n x (d + 1).toNat := ⟨_, rfl⟩
              rw [← hrr] at hstep HI
              have HX := Lib.hid hstep
              have hAA := hA
              subst hAA
              clear hir hstep hrr hx hr hxi hA
              go_wp2_with (first | (refine wpList_load_mid rfl 26 (.tmp 30) rfl g (p + j * 6) rfl _ _ hr2 Tryd.underlying26 rfl info_val ?_))
              ((with_reducible refine (HI.out _ kr).mono ?_); rintro e w4 ⟨rfl, b4⟩)
              have k4 := bthen kr b4
              have r4 : Below w3.heap.size w3 w4 := bthen br b4
              clear hr2 q4 q5
              by_cases hr0 : r = 0
              · have hz : ((r : Int) != 0) = false := by rw [hr0]; rfl
                have HS2 : Hid (firstE f ll = firstE f (ll.drop (j + 1))) := by rw [HS.out, HX.out, if_neg (by simp [hr0])]; rfl
                clear hr0
                go_wp2
                go_roundw
                case rel => exact ⟨j + 1, by omega, by go_num, r4, HS2⟩
                case measure => simp [intOf]; omega
              · have hz : ((r : Int) != 0) = true := by rw [bne_iff_ne]; omega
                have HE : Hid (M = r) := by
                  have h1 : firstE f ll = r := by rw [HS.out, HX.out, if_pos hr0]
                  rw [HE1.out (by rw [h1]; exact hr0), h1]
                  rfl
                clear hr0
                go_wp2
                go_ret
                exact ⟨by rw [HE.out] <;> rfl, k4⟩
            · have HE3 : Hid (M = objE f none lo) := HE2.out (by rw [HS.out, firstE_end f ll j (by omega)])
              obtain ⟨w5, rfl⟩ : ∃ w5 : World, w5 = wr := ⟨_, rfl⟩
              clear HS HE1 HE2
              go_wp2_with fail
              clear q4 q5
              have m5' := Lib.hid mr
              have k5 := kr
              have HO0 : Hid (objE f none lo = objE f (prevK lo 0) (lo.drop 0)) := rfl
              have hp0 : Value.string ⟨#[]⟩ = .string (prevS lo 0) := rfl
              go_loopw [7, 8] (fun s i wr => ∃ j : Nat, j ≤ lo.length ∧ i = .int .i64 j ∧ s = .string (prevS lo j) ∧ Below w5.heap.size w5 wr ∧ Hid (objE f none lo = objE f (prevK lo j) (lo.drop j))) (fun _ i _ => lo.length - (intOf i).toNat)
              case atStart => exact ⟨0, Nat.zero_le _, rfl, hp0, Below.refl _ _, HO0⟩
              case round =>
                obtain ⟨j, hj, rfl, rfl, br, HS⟩ := hrel
                clear HO0 kr mr hp0
                have kr := bthen k5 br
                have m6 : Below (w.heap.size + 1) w1 wr := m5'.out.trans (br.mono (by have := m5'.out.size; omega))
                obtain ⟨q0, q1, q2, q3, q4, q5⟩ := hbox.out wr m6
                clear q0 q1 q2 q3 q4
                by_cases hlt : j < lo.length
                · obtain ⟨x, hx⟩ : ∃ x, lo[j]? = some x := ⟨_, List.getElem?_eq_getElem hlt⟩
                  obtain ⟨g, p, ds, hA, hg, hr, hxl, hxi⟩ := HO.out j x hx
                  obtain ⟨_, B1, e1, B2, e2, _, rfl, _⟩ := hxi.open
                  have hstep := objE_drop f lo j x hx
                  rw [HF.out x.2] at hstep
                  have hkc : wr.cell? ⟨g, p + j * 7, none⟩ = some (.string (bs x.1)) := (kr.cell (p := ⟨g, p + j * 7, none⟩) hg).trans (hr 0 _ rfl)
                  have hr2 : wr.rangeAt g (p + j * 7 + 1) [.int .i64 x.2.k, .bool x.2.b, .int .i64 x.2.i, .string (bs x.2.s), .slice B1 x.2.l.length e1, .slice B2 x.2.o.length e2] := fun i u hu => by
                    rw [show p + j * 7 + 1 + i = p + j * 7 + (i + 1) by omega]
                    exact (kr.cell (p := ⟨g, p + j * 7 + (i + 1), none⟩) hg).trans (hr (i + 1) u (by simpa using hu))
                  have hir : ∀ W, Below w.heap.size w W → Calls Tryd.prog 32 #[.agg #[.int .i64 x.2.k, .bool x.2.b, .int .i64 x.2.i, .string (bs x.2.s), .slice B1 x.2.l.length e1, .slice B2 x.2.o.length e2], .int .i64 (d + 1)] W fun e w' => e = .returned (.int .i64 (may n x.2 (d + 1).toNat : Nat)) ∧ Below W.heap.size W w' := fun W hW => IH.out _ x.2 (d + 1) W (hxi.then hW) (tabs_below hT hW) (by omega) (by omega)
                  have hvk : ∀ W, Calls Tryd.prog 56 #[.string (bs x.1)] W fun e w' => e = .returned (.bool (Lib.validD x.1)) ∧ w' = W := fun W => by
                    have := refValid_any (bs x.1) W (by rw [bs_size]; omega)
                    rw [bs_data] at this
                    exact this
                  obtain ⟨r, hrr⟩ : ∃ r, r = may n x.2 (d + 1).toNat := ⟨_, rfl⟩
                  rw [← hrr] at hstep hir
                  obtain ⟨V, hVV⟩ : ∃ V, V = Lib.validD x.1 := ⟨_, rfl⟩
                  rw [← hVV] at hstep hvk
                  have hps : prevS lo (j + 1) = bs x.1 := by unfold prevS prevK; rw [if_neg (by omega), show j + 1 - 1 = j by omega, hx]; rfl
                  have HI := Lib.hid hir
                  have HK := Lib.hid hvk
                  have HX := Lib.hid hstep
                  obtain ⟨key, hkey⟩ : ∃ key, key = bs x.1 := ⟨_, rfl⟩
                  rw [← hkey] at hkc HK hps
                  have HPS : Hid (Value.string key = .string (prevS lo (j + 1))) := by rw [hps]; rfl
                  obtain ⟨cc, hcc⟩ : ∃ cc, Op.bytesLess key.toList (prevS lo j).toList = cc := ⟨_, rfl⟩
                  obtain ⟨ce, hce⟩ : ∃ ce, (key.toList == (prevS lo j).toList) = ce := ⟨_, rfl⟩
                  have hna : 0 < j → notAbove (prevK lo j) x.1 = (cc || ce) := fun h0 => by
                    have : (prevK lo j) = some (prevS lo j).toList := by
                      unfold prevS prevK
                      rw [if_neg (by omega), List.getElem?_eq_getElem (by omega)]
                      simp only [Option.map_some, bs_toList]
                    rw [this, ← hcc, ← hce, leq_less, hkey, bs_toList]
                    rfl
                  have HNA := Lib.hid hna
                  have hAA := hA
                  subst hAA
                  clear hir hvk hstep hrr hVV hx hr hxi hA hkey hps hna
                  go_wp2_with fail
                  ((with_reducible refine (HK.out _).mono ?_); rintro e w6 ⟨rfl, rfl⟩)
                  cases V with
                  | false =>
                    have HE : Hid (M = 3) := by rw [HE3.out, HS.out, HX.out, if_pos rfl]; rfl
                    go_wp2
                    go_ret
                    exact ⟨by rw [HE.out] <;> rfl, kr⟩
                  | true =>
                    by_cases hbad : 0 < j ∧ (cc || ce) = true
                    · have HE : Hid (M = 8) := by rw [HE3.out, HS.out, HX.out, if_neg (by simp), if_pos (by rw [HNA.out hbad.1]; exact hbad.2)]; rfl
                      have hj0 : (0 : Int) < (j : Int) := by omega
                      obtain ⟨_, hor⟩ := hbad
                      cases cc with
                      | true =>
                        go_wp2
                        go_ret
                        exact ⟨by rw [HE.out] <;> rfl, kr⟩
                      | false =>
                        obtain rfl : ce = true := by simpa using hor
                        clear hor
                        go_wp2
                        go_ret
                        exact ⟨by rw [HE.out] <;> rfl, kr⟩
                    · have HX2 : Hid (objE f none lo = if r ≠ 0 then r else objE f (prevK lo (j + 1)) (lo.drop (j + 1))) := by
                        have hn : ¬ notAbove (prevK lo j) x.1 = true := by
                          rcases Nat.eq_zero_or_pos j with h0 | h0
                          · rw [h0]; simp [prevK, notAbove]
                          · rw [HNA.out h0]; exact fun e => hbad ⟨h0, e⟩
                        rw [HS.out, HX.out, if_neg (by simp), if_neg hn]
                        rfl
                      clear HX
                      have fin : ∀ W4, Below w6.heap.size w6 W4 → Below w.heap.size w W4 ∧ Below w5.heap.size w5 W4 := fun W4 h => ⟨bthen kr h, bthen br h⟩
                      have FIN := Lib.hid fin
                      clear fin
                      rcases Nat.eq_zero_or_pos j with h0 | h0
                      · have hj0 : ¬ ((0 : Int) < (j : Int)) := by omega
                        clear hbad h0
                        go_wp2_with (first | (refine wpList_load_mid rfl 26 (.tmp 66) rfl g (p + j * 7 + 1) rfl _ _ hr2 Tryd.underlying26 rfl info_val ?_))
                        ((with_reducible refine (HI.out _ kr).mono ?_); rintro e w7 ⟨rfl, b7⟩)
                        obtain ⟨k7, r7⟩ := FIN.out w7 b7
                        clear hr2 q5 hkc hcc hce
                        by_cases hr0 : r = 0
                        · have hz : ((r : Int) != 0) = false := by rw [hr0]; rfl
                          have HS2 : Hid (objE f none lo = objE f (prevK lo (j + 1)) (lo.drop (j + 1))) := by rw [HX2.out, if_neg (by simp [hr0])]; rfl
                          clear hr0
                          go_wp2
                          go_roundw
                          case rel => exact ⟨j + 1, by omega, by go_num, HPS.out, r7, HS2⟩
                          case measure => simp [intOf]; omega
                        · have hz : ((r : Int) != 0) = true := by rw [bne_iff_ne]; omega
                          have HE : Hid (M = r) := by
                            rw [HE3.out, HX2.out, if_pos hr0]
                            rfl
                          clear hr0
                          go_wp2
                          go_ret
                          exact ⟨by rw [HE.out] <;> rfl, k7⟩
                      · have hj0 : (0 : Int) < (j : Int) := by omega
                        obtain rfl : cc = false := by cases cc; · rfl
                                                      · exact absurd ⟨h0, rfl⟩ hbad
                        obtain rfl : ce = false := by cases ce; · rfl
                                                      · exact absurd ⟨h0, rfl⟩ hbad
                        clear hbad h0
                        go_wp2_with (first | (refine wpList_load_mid rfl 26 (.tmp 66) rfl g (p + j * 7 + 1) rfl _ _ hr2 Tryd.underlying26 rfl info_val ?_))
                        ((with_reducible refine (HI.out _ kr).mono ?_); rintro e w7 ⟨rfl, b7⟩)
                        obtain ⟨k7, r7⟩ := FIN.out w7 b7
                        clear hr2 q5 hkc hcc hce
                        by_cases hr0 : r = 0
                        · have hz : ((r : Int) != 0) = false := by rw [hr0]; rfl
                          have HS2 : Hid (objE f none lo = objE f (prevK lo (j + 1)) (lo.drop (j + 1))) := by rw [HX2.out, if_neg (by simp [hr0])]; rfl
                          clear hr0
                          go_wp2
                          go_roundw
                          case rel => exact ⟨j + 1, by omega, by go_num, HPS.out, r7, HS2⟩
                          case measure => simp [intOf]; omega
                        · have hz : ((r : Int) != 0) = true := by rw [bne_iff_ne]; omega
                          have HE : Hid (M = r) := by
                            rw [HE3.out, HX2.out, if_pos hr0]
                            rfl
                          clear hr0
                          go_wp2
                          go_ret
                          exact ⟨by rw [HE.out] <;> rfl, k7⟩
                · have HE : Hid (M = 0) := by rw [HE3.out, HS.out, objE_end f _ lo j (by omega)]; rfl
                  go_wp2
                  go_ret
                  exact ⟨by rw [HE.out] <;> rfl, kr⟩
end Go.Proofs.YthaikagelloeoaaDoor
