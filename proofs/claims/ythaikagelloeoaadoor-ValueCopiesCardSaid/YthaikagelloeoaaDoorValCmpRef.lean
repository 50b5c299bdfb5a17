import Derived.Test.YthaikagelloeoaaDoorValCompare
namespace Go.Proofs.YthaikagelloeoaaDoor
open Go.RowKit Val

theorem refNumbers_any (x y : Int) (w : World) : Calls Tryd.prog 36 #[.int .i64 x, .int .i64 y] w fun e w' => e = .returned (.int .i64 (cmpI x y)) ∧ w' = w := by
  obtain ⟨q, hq⟩ : ∃ q, q = cmpI x y := ⟨_, rfl⟩
  rw [← hq]
  unfold cmpI at hq
  have HQ := Lib.hid hq
  clear hq
  by_cases h1 : x < y
  · have HE : Hid (q = -1) := by rw [HQ.out, if_pos h1]; rfl
    go_enter Tryd.func36, Tryd.ntmps36
    go_wp2
    go_ret
    exact ⟨by rw [HE.out] <;> rfl, rfl⟩
  · by_cases h2 : y < x
    · have HE : Hid (q = 1) := by rw [HQ.out, if_neg h1, if_pos h2]; rfl
      go_enter Tryd.func36, Tryd.ntmps36
      go_wp2
      go_ret
      exact ⟨by rw [HE.out] <;> rfl, rfl⟩
    · have HE : Hid (q = 0) := by rw [HQ.out, if_neg h1, if_neg h2]; rfl
      go_enter Tryd.func36, Tryd.ntmps36
      go_wp2
      go_ret
      exact ⟨by rw [HE.out] <;> rfl, rfl⟩

/-- A call that turns nothing, behind draws of two regions. -/
theorem still_two {P : Program} {f : FuncId} {args : Array Value} {W : World} {p q : Nat} {v : Value} (c : ∀ V : World, Calls P f args V fun e V' => e = .returned v ∧ V' = V) :
    Calls P f args (W.drewN (p + q)) fun e V => e = .returned v ∧ ∃ r, V = W.drewN (p + r) := (c _).mono fun _ _ ⟨h1, h2⟩ => ⟨h1, q, h2⟩

set_option maxHeartbeats 2000000 in
theorem refTexts_any (a b : List UInt8) (w : World) (ha : a.length ≤ 140737488351232) (hb : b.length ≤ 140737488351232) : Calls Tryd.prog 37 #[.string (bs a), .string (bs b)] w fun e w' => e = .returned (.int .i64 (cmpB a b)) ∧ Below w.heap.size w w' := by
  obtain ⟨M, hM⟩ : ∃ M, M = cmpB a b := ⟨_, rfl⟩
  rw [← hM]
  rw [cmpB_eq] at hM
  have HM0 : Hid (M = cmpL cmpU (a.drop 0) (b.drop 0)) := hM
  obtain ⟨s, hs⟩ : ∃ s, s = bs a := ⟨_, rfl⟩
  obtain ⟨t, ht⟩ : ∃ s, s = bs b := ⟨_, rfl⟩
  have hsz : s.size = a.length := by rw [hs, bs_size]
  have htz : t.size = b.length := by rw [ht, bs_size]
  have HG : Hid (∀ (j : Nat) (h : j < s.size), ((s[j]'h).toNat : Int) = ((a.getD j 0).toNat : Int)) := by subst hs; exact bs_get a
  have HG2 : Hid (∀ (j : Nat) (h : j < t.size), ((t[j]'h).toNat : Int) = ((b.getD j 0).toNat : Int)) := by subst ht; exact bs_get b
  rw [← hs, ← ht]
  have hs2 : s.size ≤ 140737488351232 := by omega
  have ht2 : t.size ≤ 140737488351232 := by omega
  have HZ := Lib.hid hsz
  have HZ2 := Lib.hid htz
  clear hM hs ht hsz htz ha hb
  go_enter Tryd.func37, Tryd.ntmps37
  go_wp2
  go_loopw [5] (fun i wr => ∃ j : Nat, j ≤ s.size ∧ j ≤ t.size ∧ i = .int .i64 j ∧ Below w.heap.size w wr ∧ Hid (M = cmpL cmpU (a.drop j) (b.drop j))) (fun i _ => s.size - (intOf i).toNat)
  case atStart => exact ⟨0, Nat.zero_le _, Nat.zero_le _, rfl, Below.refl _ _, HM0⟩
  case round =>
    obtain ⟨j, hj, hj2, rfl, br, HS⟩ := hrel
    clear HM0
    by_cases hlt : j < s.size
    · by_cases hlt2 : j < t.size
      · have hget := HG.out j hlt
        have hget2 := HG2.out j hlt2
        obtain ⟨x, hx⟩ : ∃ x, x = a.getD j 0 := ⟨_, rfl⟩
        obtain ⟨y, hy⟩ : ∃ x, x = b.getD j 0 := ⟨_, rfl⟩
        have hax : a[j]? = some x := by rw [hx]; simp [List.getD, show j < a.length by rw [← HZ.out]; exact hlt]
        have hby : b[j]? = some y := by rw [hy]; simp [List.getD, show j < b.length by rw [← HZ2.out]; exact hlt2]
        have hst := cmpL_drop cmpU a b j x y hax hby
        rw [← hx] at hget
        rw [← hy] at hget2
        have hz1 : (j : Int) < (s.size : Int) := by omega
        have hz2 : (j : Int) < (t.size : Int) := by omega
        have HX := Lib.hid hst
        by_cases hxy : x = y
        · have hn : ((x.toNat : Int) != (y.toNat : Int)) = false := by rw [hxy]; simp
          have HS2 : Hid (M = cmpL cmpU (a.drop (j + 1)) (b.drop (j + 1))) := by
            have : cmpU x y = 0 := by rw [hxy]; exact cmpU_orders.self y
            rw [HS.out, HX.out, if_neg (by simp [this])]
            rfl
          clear hst hxy hx hy hax hby HX
          go_wp2
          go_quiet (fail)
          go_wp2
          go_roundw
          case rel => exact ⟨j + 1, by omega, by omega, by go_num, Below.drewN' br _, HS2⟩
          case measure => simp [intOf]; omega
        · have hne : ¬ (x.toNat : Int) = (y.toNat : Int) := fun e => hxy (UInt8.toNat_inj.1 (by omega))
          have hn : ((x.toNat : Int) != (y.toNat : Int)) = true := by rw [bne_iff_ne]; exact hne
          have HE : Hid (M = cmpI (x.toNat : Int) (y.toNat : Int)) := by
            rw [HS.out, HX.out, if_pos (show cmpU x y ≠ 0 from cmpI_zero hne)]
            rfl
          have hw1 : wrap64 (x.toNat : Int) = (x.toNat : Int) := IntWalk.wrap64_in _ (by have := UInt8.toNat_lt x; omega)
          have hw2 : wrap64 (y.toNat : Int) = (y.toNat : Int) := IntWalk.wrap64_in _ (by have := UInt8.toNat_lt y; omega)
          clear hst hxy hx hy hax hby HX hne
          go_wp2
          go_quiet (fail)
          go_wp2
          go_quiet ((go_at_call 36; exact still_two (refNumbers_any _ _)))
          go_wp2
          go_ret
          exact ⟨by rw [HE.out, hw1, hw2] <;> rfl, Below.drewN' (Below.drewN' br _) _⟩
      · have HE : Hid (M = cmpI s.size t.size) := by rw [HS.out, HZ.out, HZ2.out, cmpL_end cmpU a b j (by rw [← HZ.out]; omega) (by rw [← HZ2.out]; omega) (.inr (by rw [← HZ2.out]; omega))]; rfl
        go_wp2_with fail
        ((with_reducible refine (refNumbers_any _ _ _).mono ?_); rintro e w7 ⟨rfl, rfl⟩)
        go_wp2
        go_ret
        exact ⟨by rw [HE.out] <;> rfl, br⟩
    · have HE : Hid (M = cmpI s.size t.size) := by rw [HS.out, HZ.out, HZ2.out, cmpL_end cmpU a b j (by rw [← HZ.out]; omega) (by rw [← HZ2.out]; omega) (.inl (by rw [← HZ.out]; omega))]; rfl
      go_wp2_with fail
      ((with_reducible refine (refNumbers_any _ _ _).mono ?_); rintro e w7 ⟨rfl, rfl⟩)
      go_wp2
      go_ret
      exact ⟨by rw [HE.out] <;> rfl, br⟩
end Go.Proofs.YthaikagelloeoaaDoor
