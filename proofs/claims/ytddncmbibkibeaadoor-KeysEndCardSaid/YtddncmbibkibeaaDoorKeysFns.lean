import Derived.Test.YtddncmbibkibeaaDoorUtfValid
import Derived.Test.YtddncmbibkibeaaDoorStr
import Derived.Test.YtddncmbibkibeaaDoorKeysSpec
import Derived.Laws.EntriesVeiled
namespace Go.Proofs.YtddncmbibkibeaaDoor
open Go.RowKit Utf Keys
open Go.Lib (validD hasPrefix)

/-- The string and the number that a call answers. -/
def strNum (p : List UInt8 × Nat) : Value := .tuple #[.string (bs p.1), .int .i64 (p.2 : Int)]
def strBool (p : List UInt8 × Bool) : Value := .tuple #[.string (bs p.1), .bool p.2]

set_option maxHeartbeats 1000000 in
theorem refMay_any (l : List UInt8) (w : World) (hs : l.length ≤ 1125899906842624) :
    Calls Tryd.prog 11 #[.string (bs l)] w fun e w' => e = .returned (.int .i64 (may l : Nat)) ∧ w' = w := by
  obtain ⟨s, hs1⟩ : ∃ s, s = bs l := ⟨_, rfl⟩
  have hsz : s.size = l.length := by rw [hs1]; exact bs_size l
  have c1 := refValid_any s w (by omega)
  have hd : s.data.toList = l := by rw [hs1]; rfl
  rw [hd] at c1
  rw [← hs1]
  have hm : may l = if s.size = 0 then 8 else if 64 < s.size then 6 else if validD l = true then 0 else 3 := by
    unfold may
    rw [hsz]
    simp only [List.length_eq_zero_iff]
  have hz2 : s.size ≤ 1125899906842624 := by omega
  generalize validD l = V at c1 hm
  have HC := Lib.hid c1
  obtain ⟨m, hmm⟩ : ∃ m, m = may l := ⟨_, rfl⟩
  rw [← hmm] at hm ⊢
  clear c1 hs1 hsz hd hs hmm
  by_cases h0 : s.size = 0
  · rw [if_pos h0] at hm
    have h0' : ((s.size : Int) == 0) = true := by rw [h0]; rfl
    have HM := Lib.hid hm
    clear hm h0
    go_enter Tryd.func11, Tryd.ntmps11
    go_wp2_with fail
    go_ret
    exact ⟨by rw [HM.out] <;> rfl, rfl⟩
  · rw [if_neg h0] at hm
    have h0' : ((s.size : Int) == 0) = false := by rw [beq_eq_false_iff_ne]; omega
    by_cases h1 : 64 < s.size
    · rw [if_pos h1] at hm
      have HM := Lib.hid hm
      clear hm h0
      go_enter Tryd.func11, Tryd.ntmps11
      go_wp2_with fail
      go_ret
      exact ⟨by rw [HM.out] <;> rfl, rfl⟩
    · rw [if_neg h1] at hm
      have HM := Lib.hid hm
      clear hm h0
      go_enter Tryd.func11, Tryd.ntmps11
      go_wp2_with fail
      refine HC.out.mono ?_
      rintro e w1 ⟨rfl, rfl⟩
      cases V
      · go_wp2
        go_ret
        exact ⟨by rw [HM.out] <;> rfl, rfl⟩
      · go_wp2
        go_ret
        exact ⟨by rw [HM.out] <;> rfl, rfl⟩

theorem reason_info : (Tryd.prog.info? 40).map (·.size) = some 2 := by kernel_rfl

theorem reason1_any (b : Nat) (s : ByteArray) (W : World) (hc : W.cell? ⟨b, 0, none⟩ = some (.string s)) :
    Calls Tryd.prog 24 #[.pointer (some ⟨b, 0, none⟩)] W fun e w' => e = .returned (.bool (decide (s.size = 0))) ∧ w' = W := by
  have hem : s.toList.isEmpty = decide (s.size = 0) := by
    rw [Lib.toList_data, Lib.size_eq]
    cases s.data.toList <;> simp
  obtain ⟨q, hq⟩ : ∃ q, q = decide (s.size = 0) := ⟨_, rfl⟩
  rw [← hq] at hem ⊢
  clear hq
  go_enter Tryd.func24, Tryd.ntmps24
  go_wp2
  go_ret
  exact ⟨rfl, rfl⟩
theorem reason2_any (b : Nat) (s : ByteArray) (W : World) (hc : W.cell? ⟨b, 0, none⟩ = some (.string s)) :
    Calls Tryd.prog 25 #[.pointer (some ⟨b, 0, none⟩)] W fun e w' => e = .returned (.bool (decide (64 < s.size))) ∧ w' = W := by
  have hq : decide ((64 : Int) < (s.size : Int)) = decide (64 < s.size) := by rw [Bool.eq_iff_iff]; simp only [decide_eq_true_eq]; omega
  obtain ⟨q, hq2⟩ : ∃ q, q = decide (64 < s.size) := ⟨_, rfl⟩
  rw [← hq2] at hq ⊢
  clear hq2
  go_enter Tryd.func25, Tryd.ntmps25
  go_wp2
  go_ret
  exact ⟨rfl, rfl⟩
theorem reason3_any (b : Nat) (s : ByteArray) (V : Bool) (W : World) (hc : W.cell? ⟨b, 0, none⟩ = some (.string s))
    (hv : Calls Tryd.prog 27 #[.string s] W fun e w' => e = .returned (.bool V) ∧ Below W.heap.size W w') :
    Calls Tryd.prog 26 #[.pointer (some ⟨b, 0, none⟩)] W fun e w' => e = .returned (.bool (!V)) ∧ Below W.heap.size W w' := by
  have HV := Lib.hid hv
  clear hv
  go_enter Tryd.func26, Tryd.ntmps26
  go_wp2_with fail
  ((with_reducible refine HV.out.mono ?_); rintro e w1 ⟨rfl, hb⟩)
  go_wp2
  go_ret
  exact ⟨rfl, hb⟩

theorem not_true_of {V : Bool} (h : false = !V) : V = true := by
  cases V
  · cases h
  · rfl
theorem not_false_of {V : Bool} (h : true = !V) : ¬ V = true := by
  cases V
  · simp
  · cases h
theorem reasons_any (s : ByteArray) (w : World) :
    Calls Tryd.prog 20 #[.string s] w fun e w' => e = .returned (.slice (some ⟨w.heap.size + 1, 0, none⟩) 3 3) ∧
      w' = (w.alloc (.cells #[.string s] 9)).alloc (.cells #[.int .i64 8, .func (.func 24) #[] #[.pointer (some ⟨w.heap.size, 0, none⟩)], .int .i64 6, .func (.func 25) #[] #[.pointer (some ⟨w.heap.size, 0, none⟩)], .int .i64 3, .func (.func 26) #[] #[.pointer (some ⟨w.heap.size, 0, none⟩)]] 40) := by
  go_enter Tryd.func20, Tryd.ntmps20
  go_wp2
  go_ret
  exact ⟨rfl, rfl⟩

set_option maxHeartbeats 4000000 in
theorem may_any (l : List UInt8) (w : World) (hs : l.length ≤ 1125899906842624) (hT : Tabs w) :
    Calls Tryd.prog 10 #[.string (bs l)] w fun e w' => e = .returned (.int .i64 (may l : Nat)) ∧ Below w.heap.size w w' := by
  obtain ⟨s, hs1⟩ : ∃ s, s = bs l := ⟨_, rfl⟩
  have hsz : s.size = l.length := by rw [hs1]; exact bs_size l
  have hd : s.data.toList = l := by rw [hs1]; rfl
  have hm : may l = if s.size = 0 then 8 else if 64 < s.size then 6 else if validD l = true then 0 else 3 := by
    unfold may
    rw [hsz]
    simp only [List.length_eq_zero_iff]
  have hem : s.toList.isEmpty = decide (s.size = 0) := by
    rw [Lib.toList_data, Lib.size_eq]
    cases s.data.toList <;> simp
  have hc : ∀ W, Tabs W → Calls Tryd.prog 27 #[.string s] W fun e w' => e = .returned (.bool (validD l)) ∧ Below W.heap.size W w' := fun W hW => by
    have := utfValid_any s W (by omega) hW
    rw [hd] at this
    exact this
  rw [← hs1]
  have hz2 : s.size ≤ 1125899906842624 := by omega
  generalize validD l = V at hc hm
  have HC := Lib.hid hc
  obtain ⟨m, hmm⟩ : ∃ m, m = may l := ⟨_, rfl⟩
  rw [← hmm] at hm ⊢
  have HM := Lib.hid hm
  have HE := Lib.hid hem
  clear hc hs1 hsz hd hs hmm hm hem
  obtain ⟨w1, hw1⟩ : ∃ w1, (w.alloc (.cells #[.string s] 9)).alloc (.cells #[.int .i64 8, .func (.func 24) #[] #[.pointer (some ⟨w.heap.size, 0, none⟩)], .int .i64 6, .func (.func 25) #[] #[.pointer (some ⟨w.heap.size, 0, none⟩)], .int .i64 3, .func (.func 26) #[] #[.pointer (some ⟨w.heap.size, 0, none⟩)]] 40) = w1 := ⟨_, rfl⟩
  have b1 : Below w.heap.size w w1 := by rw [← hw1]; exact ((Below.refl _ w).alloc (Nat.le_refl _) _).alloc (by simp) _
  have z1 : w1.heap.size = w.heap.size + 2 := by rw [← hw1]; simp
  have g0 : w1.heap[w.heap.size]? = some (.cells #[.string s] 9 (0, 0)) := by rw [← hw1]; exact heap_alloc2_old _ _ _
  have g1 := heap_alloc2_new w (.cells #[.string s] 9) (.cells #[.int .i64 8, .func (.func 24) #[] #[.pointer (some ⟨w.heap.size, 0, none⟩)], .int .i64 6, .func (.func 25) #[] #[.pointer (some ⟨w.heap.size, 0, none⟩)], .int .i64 3, .func (.func 26) #[] #[.pointer (some ⟨w.heap.size, 0, none⟩)]] 40)
  rw [hw1] at g1
  have HW := Lib.hid hw1
  have G0 := Lib.hid g0
  have G1 := Lib.hid g1
  clear hw1 g0 g1
  go_enter Tryd.func10, Tryd.ntmps10
  go_wp2_with fail
  refine (reasons_any s w).mono ?_
  rintro e w0 ⟨rfl, rfl⟩
  rw [HW.out]
  go_wp2
  go_loopw [8] (fun i wr => ∃ k : Nat, k ≤ 3 ∧ i = .int .i64 k ∧ Below w1.heap.size w1 wr ∧ Hid ((1 ≤ k → s.size ≠ 0) ∧ (2 ≤ k → s.size ≤ 64) ∧ (3 ≤ k → V = true))) (fun i _ => 3 - (intOf i).toNat)
  case atStart => exact ⟨0, by omega, rfl, Below.refl _ _, by omega, by omega, by omega⟩
  case round =>
    obtain ⟨k, hk, rfl, hb, HK⟩ := hrel
    have r0 := (hb.block w.heap.size (by omega)).trans G0.out
    have r1 := (hb.block (w.heap.size + 1) (by omega)).trans G1.out
    have rt := World.rangeAt_of_block r1 (2 * k) 2
    have c0 : wr.cell? ⟨w.heap.size, 0, none⟩ = some (.string s) := by rw [cell_of_row _ _ _ _ _ _ r0]; rfl
    clear r0 r1
    have hT0 : Tabs wr := Utf8Tabs_below hT (b1.trans (hb.mono b1.size))
    have hbz := hb.size
    rcases (show k = 0 ∨ k = 1 ∨ k = 2 ∨ k = 3 by omega) with rfl | rfl | rfl | rfl
    · go_wp2_with (first | (refine wpList_load_mid rfl 40 (.tmp 10) rfl (w.heap.size + 1) (2 * 0) rfl _ _ rt Tryd.underlying40 rfl reason_info ?_))
      refine (reason1_any w.heap.size s _ (by rw [World.cell?_alloc_lt _ _ _ (by simp only; omega)]; exact c0)).mono ?_
      rintro e w2 ⟨rfl, rfl⟩
      have hb2 := hb.alloc hbz (.cells #[.int .i64 8, .func (.func 24) #[] #[.pointer (some ⟨w.heap.size, 0, none⟩)]] 40)
      by_cases h0 : s.size = 0
      · rw [decide_eq_true h0]
        have hq : m = 8 := by
          have := HK.out
          first
            | rw [HM.out, if_neg (this.1 (by omega)), if_pos h0]
            | rw [HM.out, if_pos h0]
        have HQ := Lib.hid hq
        clear hq
        go_wp2
        go_ret
        exact ⟨by rw [HQ.out] <;> rfl, b1.trans (hb2.mono b1.size)⟩
      · rw [decide_eq_false h0]
        have HK2 : Hid ((1 ≤ 0 + 1 → s.size ≠ 0) ∧ (2 ≤ 0 + 1 → s.size ≤ 64) ∧ (3 ≤ 0 + 1 → V = true)) := by
          have := HK.out
          exact ⟨by omega, by omega, by omega⟩
        clear rt c0 h0
        go_wp2
        go_roundw
        case rel => exact ⟨0 + 1, by omega, rfl, hb2, HK2⟩
        case measure => simp [intOf]
    · go_wp2_with (first | (refine wpList_load_mid rfl 40 (.tmp 10) rfl (w.heap.size + 1) (2 * 1) rfl _ _ rt Tryd.underlying40 rfl reason_info ?_))
      refine (reason2_any w.heap.size s _ (by rw [World.cell?_alloc_lt _ _ _ (by simp only; omega)]; exact c0)).mono ?_
      rintro e w2 ⟨rfl, rfl⟩
      have hb2 := hb.alloc hbz (.cells #[.int .i64 6, .func (.func 25) #[] #[.pointer (some ⟨w.heap.size, 0, none⟩)]] 40)
      by_cases h0 : 64 < s.size
      · rw [decide_eq_true h0]
        have hq : m = 6 := by
          have := HK.out
          first
            | rw [HM.out, if_neg (this.1 (by omega)), if_pos h0]
            | rw [HM.out, if_pos h0]
        have HQ := Lib.hid hq
        clear hq
        go_wp2
        go_ret
        exact ⟨by rw [HQ.out] <;> rfl, b1.trans (hb2.mono b1.size)⟩
      · rw [decide_eq_false h0]
        have HK2 : Hid ((1 ≤ 1 + 1 → s.size ≠ 0) ∧ (2 ≤ 1 + 1 → s.size ≤ 64) ∧ (3 ≤ 1 + 1 → V = true)) := by
          have := HK.out
          exact ⟨by omega, by omega, by omega⟩
        clear rt c0 h0
        go_wp2
        go_roundw
        case rel => exact ⟨1 + 1, by omega, rfl, hb2, HK2⟩
        case measure => simp [intOf]
    · go_wp2_with (first | (refine wpList_load_mid rfl 40 (.tmp 10) rfl (w.heap.size + 1) (2 * 2) rfl _ _ rt Tryd.underlying40 rfl reason_info ?_))
      have c3 := reason3_any w.heap.size s V (wr.alloc (.cells #[.int .i64 3, .func (.func 26) #[] #[.pointer (some ⟨w.heap.size, 0, none⟩)]] 40)) (by rw [World.cell?_alloc_lt _ _ _ (by simp only; omega)]; exact c0) (HC.out _ (Utf8Tabs_below hT0 ((Below.refl _ wr).alloc (Nat.le_refl _) _)))
      obtain ⟨q, hq0⟩ : ∃ q, q = !V := ⟨_, rfl⟩
      rw [← hq0] at c3
      have HQ0 := Lib.hid hq0
      clear hq0
      ((with_reducible refine c3.mono ?_); rintro e w2 ⟨rfl, hb3⟩)
      have hb2 := (hb.alloc hbz (.cells #[.int .i64 3, .func (.func 26) #[] #[.pointer (some ⟨w.heap.size, 0, none⟩)]] 40)).trans (hb3.mono (by simp; omega))
      have hre : w2.cell? ⟨wr.heap.size, 0, none⟩ = some (.int .i64 3) := by
        rw [hb3.cell (by simp)]
        simp
      clear rt c0 c3
      cases q
      · have HK2 : Hid ((1 ≤ 3 → s.size ≠ 0) ∧ (2 ≤ 3 → s.size ≤ 64) ∧ (3 ≤ 3 → V = true)) := by
          have := HK.out
          exact ⟨by omega, by omega, fun _ => not_true_of HQ0.out⟩
        go_wp2
        go_roundw
        case rel => exact ⟨3, by omega, rfl, hb2, HK2⟩
        case measure => simp [intOf]
      · have hq : m = 3 := by
          have := HK.out
          rw [HM.out, if_neg (this.1 (by omega)), if_neg (by omega), if_neg (not_false_of HQ0.out)]
        have HQ := Lib.hid hq
        clear hq
        go_wp2
        go_ret
        exact ⟨by rw [HQ.out] <;> rfl, b1.trans (hb2.mono b1.size)⟩
    · have hq : m = 0 := by
        have := HK.out
        rw [HM.out, if_neg (this.1 (by omega)), if_neg (by omega), if_pos (this.2.2 (by omega))]
      have HQ := Lib.hid hq
      clear hq
      clear rt c0
      go_wp2
      go_ret
      exact ⟨by rw [HQ.out] <;> rfl, b1.trans (hb.mono b1.size)⟩
end Go.Proofs.YtddncmbibkibeaaDoor
