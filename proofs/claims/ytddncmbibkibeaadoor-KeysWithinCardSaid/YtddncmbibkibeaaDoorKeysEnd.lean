import Derived.Test.YtddncmbibkibeaaDoorKeysFns
namespace Go.Proofs.YtddncmbibkibeaaDoor
open Go.RowKit Utf Keys
open Go.Lib (validD hasPrefix)

/-- A string taken apart: its length, its bytes, all behind one name. -/
theorem str_name (l : List UInt8) : ∃ s : ByteArray, s = bs l ∧ s.size = l.length ∧ s.data.toList = l ∧ ∀ (j : Nat) (h : j < s.size), ((s[j]'h).toNat : Int) = ((l.getD j 0).toNat : Int) :=
  ⟨bs l, rfl, bs_size l, rfl, fun j h => bs_get l j h⟩
theorem u8_next {c : UInt8} {n : Nat} (hc : n = c.toNat) : UInt8.ofNat (n + 1) = c + 1 := by
  apply UInt8.toNat_inj.1
  rw [UInt8.toNat_ofNat', UInt8.toNat_add, hc]
  rfl

set_option maxHeartbeats 2000000 in
theorem end_any (l : List UInt8) (w : World) (hs : l.length ≤ 1125899906842624) :
    Calls Tryd.prog 13 #[.string (bs l)] w fun e w' => e = .returned (strBool (endL l)) ∧ Below w.heap.size w w' := by
  obtain ⟨s, hs1, hsz, hsl, hsg⟩ := str_name l
  rw [← hs1]
  have hz2 : s.size ≤ 1125899906842624 := by omega
  have HG : Hid (∀ (j : Nat) (h : j < s.size), ((s[j]'h).toNat : Int) = ((l.getD j 0).toNat : Int)) := hsg
  have HS := Lib.hid hs1
  have HZ := Lib.hid hsz
  have hcut : Hid (endN l = cut l s.size) := by rw [hsz]; rfl
  clear hs1 hsl hsg hsz hs
  go_enter Tryd.func13, Tryd.ntmps13
  go_wp2
  go_step3
  go_wp2
  go_step3
  go_wp2
  go_loopw [4, 7, 10] (fun i _ _ wr => wr = w ∧ ∃ k : Nat, k ≤ s.size ∧ i = .int .i64 k ∧ Hid (endN l = cut l k)) (fun i _ _ _ => (intOf i).toNat)
  case atStart => exact ⟨rfl, _, Nat.le_refl _, rfl, hcut⟩
  case round =>
    obtain ⟨rfl, k, hk, rfl, HK⟩ := hrel
    clear hcut
    by_cases h0 : k = 0
    · have HE := Lib.hid (show strBool (endL l) = .tuple #[.string ⟨#[]⟩, .bool false] by rw [endL_none (by rw [HK.out, h0]; rfl)]; rfl)
      subst h0
      go_wp2
      try rw [Exit.noGoto_ret]
      go_ret2
      exact ⟨by rw [HE.out] <;> rfl, Below.refl _ _⟩
    · obtain ⟨j, rfl⟩ : ∃ j, k = j + 1 := ⟨k - 1, by omega⟩
      obtain ⟨cc, hcc⟩ : ∃ cc, cc = l.getD j 0 := ⟨_, rfl⟩
      obtain ⟨c, hc⟩ : ∃ c : Nat, c = cc.toNat := ⟨_, rfl⟩
      have hget := HG.out j (by omega)
      rw [← hcc, ← hc] at hget
      have hc2 : c < 256 := by rw [hc]; exact UInt8.toNat_lt _
      have hk0 : ((j : Int) + 1 == 0) = false := by rw [beq_eq_false_iff_ne]; omega
      have hk1 : decide ((0 : Int) < (j : Int) + 1) = true := decide_eq_true (by omega)
      have hj0 : (0 : Int) ≤ (j : Int) := by omega
      have hj1 : (j : Int) ≤ (s.size : Int) := by omega
      by_cases h5 : c = 255
      · have h5' : ((c : Int) != 255) = false := by rw [h5]; rfl
        have h6' : ((c : Int) == 255) = true := by rw [h5]; rfl
        have hk2 : endN l = cut l j := by rw [HK.out, cut_hit (by rw [← hcc]; exact UInt8.toNat_inj.1 (by rw [← hc, h5]; rfl))]
        have HK2 := Lib.hid hk2
        clear hk2
        clear h5 hc hcc
        go_wp2
        go_roundw
        case rel => exact ⟨trivial, j, by omega, by go_num, HK2⟩
        case measure => simp [intOf]; try omega
      · have h5' : ((c : Int) != 255) = true := by rw [bne_iff_ne]; omega
        have h6' : ((c : Int) == 255) = false := by rw [beq_eq_false_iff_ne]; omega
        obtain ⟨x, hx⟩ : ∃ x : UInt8, x = UInt8.ofNat (c + 1) := ⟨_, rfl⟩
        obtain ⟨y, hy⟩ : ∃ y, y = bs [x] := ⟨_, rfl⟩
        obtain ⟨z, hz⟩ : ∃ z, z = s.extract 0 j ++ y := ⟨_, rfl⟩
        have HE := Lib.hid (show strBool (endL l) = .tuple #[.string z, .bool true] by
          rw [endL_some (j := j) (by rw [HK.out, cut_miss]; intro e; rw [← hcc] at e; exact h5 (by rw [hc, e]; rfl)), hz, hy, hx, HS.out, bs_take, bs_append, u8_next hc, hcc]
          rfl)
        have hv := fun W b => conv_one Tryd.underlying41 Tryd.underlying5 Tryd.underlying9 x ((c : Int) + 1) (by rw [hx, UInt8.toNat_ofNat']; omega) W b
        rw [← hy] at hv
        have ha := fun W => add_run (P := Tryd.prog) (s.extract 0 j) y (by rw [hy, ByteArray.size_extract, bs_size]; simp; omega) z hz W
        clear hx hy hz hc hcc
        go_wp2
        go_region
        all_goals
          clear hv ha
          go_wp2
          try rw [Exit.noGoto_ret]
          go_ret2
          exact ⟨by rw [HE.out] <;> rfl, ((Below.refl _ _).alloc (Nat.le_refl _) _).drew⟩

set_option maxHeartbeats 2000000 in
theorem refEnd_any (l : List UInt8) (w : World) (hs : l.length ≤ 1125899906842624) :
    Calls Tryd.prog 14 #[.string (bs l)] w fun e w' => e = .returned (strBool (endL l)) ∧ Below w.heap.size w w' := by
  obtain ⟨s, hs1, hsz, hsl, hsg⟩ := str_name l
  rw [← hs1]
  have hz2 : s.size ≤ 1125899906842624 := by omega
  have HG : Hid (∀ (j : Nat) (h : j < s.size), ((s[j]'h).toNat : Int) = ((l.getD j 0).toNat : Int)) := hsg
  have HS := Lib.hid hs1
  have HZ := Lib.hid hsz
  have hcut : Hid (endN l = cut l s.size) := by rw [hsz]; rfl
  clear hs1 hsl hsg hsz hs
  go_enter Tryd.func14, Tryd.ntmps14
  go_wp2
  go_loopw [4] (fun i wr => wr = w ∧ ∃ k : Nat, k ≤ s.size ∧ i = .int .i64 k ∧ Hid (endN l = cut l k)) (fun i _ => (intOf i).toNat)
  case atStart => exact ⟨rfl, _, Nat.le_refl _, rfl, hcut⟩
  case round =>
    obtain ⟨rfl, k, hk, rfl, HK⟩ := hrel
    clear hcut
    by_cases h0 : k = 0
    · have HE := Lib.hid (show strBool (endL l) = .tuple #[.string ⟨#[]⟩, .bool false] by rw [endL_none (by rw [HK.out, h0]; rfl)]; rfl)
      subst h0
      go_wp2
      try rw [Exit.noGoto_ret]
      go_ret2
      exact ⟨by rw [HE.out] <;> rfl, Below.refl _ _⟩
    · obtain ⟨j, rfl⟩ : ∃ j, k = j + 1 := ⟨k - 1, by omega⟩
      obtain ⟨cc, hcc⟩ : ∃ cc, cc = l.getD j 0 := ⟨_, rfl⟩
      obtain ⟨c, hc⟩ : ∃ c : Nat, c = cc.toNat := ⟨_, rfl⟩
      have hget := HG.out j (by omega)
      rw [← hcc, ← hc] at hget
      have hc2 : c < 256 := by rw [hc]; exact UInt8.toNat_lt _
      have hk0 : ((j : Int) + 1 == 0) = false := by rw [beq_eq_false_iff_ne]; omega
      have hk1 : decide ((0 : Int) < (j : Int) + 1) = true := decide_eq_true (by omega)
      have hj0 : (0 : Int) ≤ (j : Int) := by omega
      have hj1 : (j : Int) ≤ (s.size : Int) := by omega
      by_cases h5 : c = 255
      · have h5' : ((c : Int) != 255) = false := by rw [h5]; rfl
        have h6' : ((c : Int) == 255) = true := by rw [h5]; rfl
        have hk2 : endN l = cut l j := by rw [HK.out, cut_hit (by rw [← hcc]; exact UInt8.toNat_inj.1 (by rw [← hc, h5]; rfl))]
        have HK2 := Lib.hid hk2
        clear hk2
        clear h5 hc hcc
        go_wp2
        go_roundw
        case rel => exact ⟨trivial, j, by omega, by go_num, HK2⟩
        case measure => simp [intOf]; try omega
      · have h5' : ((c : Int) != 255) = true := by rw [bne_iff_ne]; omega
        have h6' : ((c : Int) == 255) = false := by rw [beq_eq_false_iff_ne]; omega
        obtain ⟨x, hx⟩ : ∃ x : UInt8, x = UInt8.ofNat (c + 1) := ⟨_, rfl⟩
        obtain ⟨y, hy⟩ : ∃ y, y = bs [x] := ⟨_, rfl⟩
        obtain ⟨z, hz⟩ : ∃ z, z = s.extract 0 j ++ y := ⟨_, rfl⟩
        have HE := Lib.hid (show strBool (endL l) = .tuple #[.string z, .bool true] by
          rw [endL_some (j := j) (by rw [HK.out, cut_miss]; intro e; rw [← hcc] at e; exact h5 (by rw [hc, e]; rfl)), hz, hy, hx, HS.out, bs_take, bs_append, u8_next hc, hcc]
          rfl)
        have hv := fun W b => conv_one Tryd.underlying41 Tryd.underlying5 Tryd.underlying9 x ((c : Int) + 1) (by rw [hx, UInt8.toNat_ofNat']; omega) W b
        rw [← hy] at hv
        have ha := fun W => add_run (P := Tryd.prog) (s.extract 0 j) y (by rw [hy, ByteArray.size_extract, bs_size]; simp; omega) z hz W
        clear hx hy hz hc hcc
        go_wp2
        go_region
        all_goals
          clear hv ha
          go_wp2
          try rw [Exit.noGoto_ret]
          go_ret2
          exact ⟨by rw [HE.out] <;> rfl, ((Below.refl _ _).alloc (Nat.le_refl _) _).drew⟩
end Go.Proofs.YtddncmbibkibeaaDoor
