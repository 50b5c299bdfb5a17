import Derived.Test.YtgeefnmgejnemaaDoorUtfSpec
import Derived.Test.YtgeefnmgejnemaaDoorWords
namespace Go.Proofs.YtgeefnmgejnemaaDoor
open Go.RowKit Utf

def tupN (p : Nat × Nat) : Value := .tuple #[.int .i64 (p.1 : Int), .int .i64 (p.2 : Int)]
theorem tupN_of {r n : Nat} {p : Nat × Nat} (h : p = (r, n)) : tupN p = .tuple #[.int .i64 (r : Int), .int .i64 (n : Int)] := by rw [h]; rfl
theorem tupN_none {p : Nat × Nat} (h : p = (0, 0)) : tupN p = .tuple #[.int .i64 0, .int .i64 0] := by rw [h]; rfl
theorem str_get (s : ByteArray) (k : Nat) (h : k < s.size) : ((s[k]'h).toNat : Int) = ((s.data.toList.getD k 0).toNat : Int) := by
  have : s[k]'h = s.data.toList.getD k 0 := by
    rw [List.getD, List.getElem?_eq_getElem (by rw [← Lib.size_eq]; exact h)]
    rfl
  rw [this]

set_option maxRecDepth 100000 in
set_option maxHeartbeats 2000000 in
theorem refAt_lead2 (s : ByteArray) (k c : Nat) (w : World) (hlt : k < s.size) (hs : s.size ≤ 1125899906842624) (hc : c = (s.data.toList.getD k 0).toNat) (g1 : 192 ≤ c) (g2 : c < 224) :
    Calls Tryd.prog 22 #[.string s, .int .i64 (k : Int)] w fun e w' => e = .returned (tupN (at1 (s.data.toList.drop k))) ∧ w' = w := by
  have hl : Lead c 2 (c - 192) 128 := by unfold Lead; omega
  have hget : ((s[k]'hlt).toNat : Int) = (c : Int) := by rw [hc]; exact str_get s k hlt
  have hlen : s.data.toList.length = s.size := (Lib.size_eq s).symm
  by_cases hkn : s.size < k + 2
  · have HP := Lib.hid (tupN_none (at1_short hc hl (.inl (by rw [hlen]; exact hkn))))
    clear hc hlen hl
    go_enter Tryd.func22, Tryd.ntmps22
    go_wp2
    go_ret2
    exact ⟨by rw [HP.out] <;> rfl, rfl⟩
  · obtain ⟨a, ha⟩ : ∃ a, a = c - 192 := ⟨_, rfl⟩
    rw [← ha] at hl
    have HS := Lib.hid (fun h => tupN_none (@at1_short s.data.toList k c 2 a 128 hc hl (.inr h)))
    have HF := Lib.hid (fun h => @at1_full s.data.toList k c 2 a 128 hc hl (by rw [hlen]; omega) h)
    have HA := Lib.hid (fun j h => acc_lt a (dd s.data.toList k) (by omega) j h)
    have HG : Hid (∀ j (hj : j < s.size - k), ((s[k + j]'(by omega)).toNat : Int) = (dd s.data.toList k j : Int)) := fun j hj => str_get s (k + j) (by omega)
    have HD := Lib.hid (dd_lt s.data.toList k)
    obtain ⟨d, hd⟩ : ∃ d, d = dd s.data.toList k := ⟨_, rfl⟩
    rw [← hd] at HS HF HA HG HD
    obtain ⟨P, hP⟩ : ∃ P, P = at1 (s.data.toList.drop k) := ⟨_, rfl⟩
    rw [← hP] at HS HF ⊢
    clear hc hd hP hl
    go_enter Tryd.func22, Tryd.ntmps22
    have hac : (c : Int) - 192 = (a : Int) := by omega
    have ha32 : a < 64 := by omega
    clear ha
    have t0 : decide (s.size ≤ k) = false := decide_eq_false (by omega)
    have t8 : decide ((s.size : Int) < (k : Int) + 2) = false := decide_eq_false (by omega)
    have t1 : decide ((c : Int) < 128) = false := by first | exact decide_eq_true (by omega) | exact decide_eq_false (by omega)
    have t2 : decide ((c : Int) < 224) = true := by first | exact decide_eq_true (by omega) | exact decide_eq_false (by omega)
    have t3 : decide ((c : Int) < 240) = true := by first | exact decide_eq_true (by omega) | exact decide_eq_false (by omega)
    have t4 : decide ((c : Int) < 248) = true := by first | exact decide_eq_true (by omega) | exact decide_eq_false (by omega)
    have t5 : decide ((192 : Int) ≤ (c : Int)) = true := by first | exact decide_eq_true (by omega) | exact decide_eq_false (by omega)
    have t6 : decide ((224 : Int) ≤ (c : Int)) = false := by first | exact decide_eq_true (by omega) | exact decide_eq_false (by omega)
    have t7 : decide ((240 : Int) ≤ (c : Int)) = false := by first | exact decide_eq_true (by omega) | exact decide_eq_false (by omega)
    go_wp2
    clear hget g1 g2 hac t0 t8 t1 t2 t3 t4 t5 t6 t7
    go_loopw [8, 10, 11] (fun r i _ wr => wr = w ∧ ∃ j x : Nat, j < 2 ∧ i = .int .i64 ((j : Int) + 1) ∧ r = .int .i64 (x : Int) ∧ x < 8388608 ∧ Hid (x = acc a d j) ∧ Hid (∀ i, 1 ≤ i → i ≤ j → 128 ≤ d i ∧ d i < 192)) (fun _ i _ _ => 2 - (intOf i).toNat)
    case atStart => exact ⟨rfl, 0, a, by omega, rfl, rfl, by omega, rfl, fun i h1 h2 => by omega⟩
    case round =>
      obtain ⟨rfl, j, x, hj, rfl, rfl, hx, HX, HD2⟩ := hrel
      by_cases hjn : j + 1 < 2
      · have hkj : k + (j + 1) < s.size := by omega
        have hget := HG.out (j + 1) (by omega)
        have hdl := HD.out (j + 1)
        obtain ⟨y, hy⟩ : ∃ y, y = d (j + 1) := ⟨_, rfl⟩
        rw [← hy] at hget hdl
        have HY := Lib.hid hy
        clear hy
        by_cases hbad : y < 128 ∨ 192 ≤ y
        · have HP := Lib.hid (HS.out ⟨j + 1, by omega, hjn, by rw [← HY.out]; exact hbad⟩)
          clear HS HF HA HG HD HX HD2 HY
          rcases hbad with hbad | hbad
          · go_wp2
            go_ret2
            exact ⟨by rw [HP.out] <;> rfl, rfl⟩
          · go_wp2
            go_ret2
            exact ⟨by rw [HP.out] <;> rfl, rfl⟩
        · have h128 : 128 ≤ y := by omega
          have h192 : y < 192 := by omega
          have hd2 : ∀ i, 1 ≤ i → i ≤ j + 1 → 128 ≤ d i ∧ d i < 192 := fun i q1 q2 => by
            by_cases e : i = j + 1
            · rw [e, ← HY.out]; exact ⟨h128, h192⟩
            · exact HD2.out i q1 (by omega)
          have hb := HA.out (j + 1) (fun i q1 q2 => (hd2 i q1 q2).2)
          have hp : 64 ^ (j + 1) ≤ 64 ^ 3 := Nat.pow_le_pow_right (by omega) (by omega)
          have hx2 : 64 * x + (y - 128) = acc a d (j + 1) := by rw [acc_succ, ← HX.out, ← HY.out]
          have hx3 : 64 * x + (y - 128) < 8388608 := by
            rw [hx2]
            generalize 64 ^ (j + 1) = X at hb hp
            generalize acc a d (j + 1) = Y at hb ⊢
            omega
          have HD3 := Lib.hid hd2
          have HX2 := Lib.hid hx2
          clear HS HF HA HG HD HX HD2 HY hbad hd2 hx2 hb hp
          go_wp2
          go_roundw
          case rel => exact ⟨trivial, j + 1, 64 * x + (y - 128), by omega, by go_num, by congr 1; omega, hx3, HX2, HD3⟩
          case measure => simp [intOf]; omega
      · have hj1 : j = 2 - 1 := by omega
        have hf := HF.out (fun i q1 q2 => HD2.out i q1 (by omega))
        rw [← hj1, ← HX.out] at hf
        clear HS HF HA HG HD HX HD2 hj1
        by_cases b1 : x < 128
        · rw [if_pos (.inl b1)] at hf
          have HP := Lib.hid (tupN_none hf)
          clear hf
          go_wp2
          go_ret2
          exact ⟨by rw [HP.out] <;> rfl, rfl⟩
        · by_cases b2 : 1114111 < x
          · rw [if_pos (.inr (.inl b2))] at hf
            have HP := Lib.hid (tupN_none hf)
            clear hf
            go_wp2
            go_ret2
            exact ⟨by rw [HP.out] <;> rfl, rfl⟩
          · by_cases b3 : 55296 ≤ x ∧ x < 57344
            · rw [if_pos (.inr (.inr b3))] at hf
              have HP := Lib.hid (tupN_none hf)
              obtain ⟨b3, b4⟩ := b3
              clear hf
              first
                | (exfalso; omega)
                | (go_wp2
                   go_ret2
                   exact ⟨by rw [HP.out] <;> rfl, rfl⟩)
            · rw [if_neg (by omega)] at hf
              have HP := Lib.hid (tupN_of hf)
              clear hf
              by_cases b4 : 55296 ≤ x
              · have b5 : 57344 ≤ x := by omega
                clear b3
                go_wp2
                go_ret2
                exact ⟨by rw [HP.out] <;> rfl, rfl⟩
              · clear b3
                first
                  | (exfalso; omega)
                  | (go_wp2
                     go_ret2
                     exact ⟨by rw [HP.out] <;> rfl, rfl⟩)
set_option maxRecDepth 100000 in
set_option maxHeartbeats 2000000 in
theorem refAt_lead3 (s : ByteArray) (k c : Nat) (w : World) (hlt : k < s.size) (hs : s.size ≤ 1125899906842624) (hc : c = (s.data.toList.getD k 0).toNat) (g1 : 224 ≤ c) (g2 : c < 240) :
    Calls Tryd.prog 22 #[.string s, .int .i64 (k : Int)] w fun e w' => e = .returned (tupN (at1 (s.data.toList.drop k))) ∧ w' = w := by
  have hl : Lead c 3 (c - 224) 2048 := by unfold Lead; omega
  have hget : ((s[k]'hlt).toNat : Int) = (c : Int) := by rw [hc]; exact str_get s k hlt
  have hlen : s.data.toList.length = s.size := (Lib.size_eq s).symm
  by_cases hkn : s.size < k + 3
  · have HP := Lib.hid (tupN_none (at1_short hc hl (.inl (by rw [hlen]; exact hkn))))
    clear hc hlen hl
    go_enter Tryd.func22, Tryd.ntmps22
    go_wp2
    go_ret2
    exact ⟨by rw [HP.out] <;> rfl, rfl⟩
  · obtain ⟨a, ha⟩ : ∃ a, a = c - 224 := ⟨_, rfl⟩
    rw [← ha] at hl
    have HS := Lib.hid (fun h => tupN_none (@at1_short s.data.toList k c 3 a 2048 hc hl (.inr h)))
    have HF := Lib.hid (fun h => @at1_full s.data.toList k c 3 a 2048 hc hl (by rw [hlen]; omega) h)
    have HA := Lib.hid (fun j h => acc_lt a (dd s.data.toList k) (by omega) j h)
    have HG : Hid (∀ j (hj : j < s.size - k), ((s[k + j]'(by omega)).toNat : Int) = (dd s.data.toList k j : Int)) := fun j hj => str_get s (k + j) (by omega)
    have HD := Lib.hid (dd_lt s.data.toList k)
    obtain ⟨d, hd⟩ : ∃ d, d = dd s.data.toList k := ⟨_, rfl⟩
    rw [← hd] at HS HF HA HG HD
    obtain ⟨P, hP⟩ : ∃ P, P = at1 (s.data.toList.drop k) := ⟨_, rfl⟩
    rw [← hP] at HS HF ⊢
    clear hc hd hP hl
    go_enter Tryd.func22, Tryd.ntmps22
    have hac : (c : Int) - 224 = (a : Int) := by omega
    have ha32 : a < 64 := by omega
    clear ha
    have t0 : decide (s.size ≤ k) = false := decide_eq_false (by omega)
    have t8 : decide ((s.size : Int) < (k : Int) + 3) = false := decide_eq_false (by omega)
    have t1 : decide ((c : Int) < 128) = false := by first | exact decide_eq_true (by omega) | exact decide_eq_false (by omega)
    have t2 : decide ((c : Int) < 224) = false := by first | exact decide_eq_true (by omega) | exact decide_eq_false (by omega)
    have t3 : decide ((c : Int) < 240) = true := by first | exact decide_eq_true (by omega) | exact decide_eq_false (by omega)
    have t4 : decide ((c : Int) < 248) = true := by first | exact decide_eq_true (by omega) | exact decide_eq_false (by omega)
    have t5 : decide ((192 : Int) ≤ (c : Int)) = true := by first | exact decide_eq_true (by omega) | exact decide_eq_false (by omega)
    have t6 : decide ((224 : Int) ≤ (c : Int)) = true := by first | exact decide_eq_true (by omega) | exact decide_eq_false (by omega)
    have t7 : decide ((240 : Int) ≤ (c : Int)) = false := by first | exact decide_eq_true (by omega) | exact decide_eq_false (by omega)
    go_wp2
    clear hget g1 g2 hac t0 t8 t1 t2 t3 t4 t5 t6 t7
    go_loopw [8, 10, 11] (fun r i _ wr => wr = w ∧ ∃ j x : Nat, j < 3 ∧ i = .int .i64 ((j : Int) + 1) ∧ r = .int .i64 (x : Int) ∧ x < 8388608 ∧ Hid (x = acc a d j) ∧ Hid (∀ i, 1 ≤ i → i ≤ j → 128 ≤ d i ∧ d i < 192)) (fun _ i _ _ => 3 - (intOf i).toNat)
    case atStart => exact ⟨rfl, 0, a, by omega, rfl, rfl, by omega, rfl, fun i h1 h2 => by omega⟩
    case round =>
      obtain ⟨rfl, j, x, hj, rfl, rfl, hx, HX, HD2⟩ := hrel
      by_cases hjn : j + 1 < 3
      · have hkj : k + (j + 1) < s.size := by omega
        have hget := HG.out (j + 1) (by omega)
        have hdl := HD.out (j + 1)
        obtain ⟨y, hy⟩ : ∃ y, y = d (j + 1) := ⟨_, rfl⟩
        rw [← hy] at hget hdl
        have HY := Lib.hid hy
        clear hy
        by_cases hbad : y < 128 ∨ 192 ≤ y
        · have HP := Lib.hid (HS.out ⟨j + 1, by omega, hjn, by rw [← HY.out]; exact hbad⟩)
          clear HS HF HA HG HD HX HD2 HY
          rcases hbad with hbad | hbad
          · go_wp2
            go_ret2
            exact ⟨by rw [HP.out] <;> rfl, rfl⟩
          · go_wp2
            go_ret2
            exact ⟨by rw [HP.out] <;> rfl, rfl⟩
        · have h128 : 128 ≤ y := by omega
          have h192 : y < 192 := by omega
          have hd2 : ∀ i, 1 ≤ i → i ≤ j + 1 → 128 ≤ d i ∧ d i < 192 := fun i q1 q2 => by
            by_cases e : i = j + 1
            · rw [e, ← HY.out]; exact ⟨h128, h192⟩
            · exact HD2.out i q1 (by omega)
          have hb := HA.out (j + 1) (fun i q1 q2 => (hd2 i q1 q2).2)
          have hp : 64 ^ (j + 1) ≤ 64 ^ 3 := Nat.pow_le_pow_right (by omega) (by omega)
          have hx2 : 64 * x + (y - 128) = acc a d (j + 1) := by rw [acc_succ, ← HX.out, ← HY.out]
          have hx3 : 64 * x + (y - 128) < 8388608 := by
            rw [hx2]
            generalize 64 ^ (j + 1) = X at hb hp
            generalize acc a d (j + 1) = Y at hb ⊢
            omega
          have HD3 := Lib.hid hd2
          have HX2 := Lib.hid hx2
          clear HS HF HA HG HD HX HD2 HY hbad hd2 hx2 hb hp
          go_wp2
          go_roundw
          case rel => exact ⟨trivial, j + 1, 64 * x + (y - 128), by omega, by go_num, by congr 1; omega, hx3, HX2, HD3⟩
          case measure => simp [intOf]; omega
      · have hj1 : j = 3 - 1 := by omega
        have hf := HF.out (fun i q1 q2 => HD2.out i q1 (by omega))
        rw [← hj1, ← HX.out] at hf
        clear HS HF HA HG HD HX HD2 hj1
        by_cases b1 : x < 2048
        · rw [if_pos (.inl b1)] at hf
          have HP := Lib.hid (tupN_none hf)
          clear hf
          go_wp2
          go_ret2
          exact ⟨by rw [HP.out] <;> rfl, rfl⟩
        · by_cases b2 : 1114111 < x
          · rw [if_pos (.inr (.inl b2))] at hf
            have HP := Lib.hid (tupN_none hf)
            clear hf
            go_wp2
            go_ret2
            exact ⟨by rw [HP.out] <;> rfl, rfl⟩
          · by_cases b3 : 55296 ≤ x ∧ x < 57344
            · rw [if_pos (.inr (.inr b3))] at hf
              have HP := Lib.hid (tupN_none hf)
              obtain ⟨b3, b4⟩ := b3
              clear hf
              first
                | (exfalso; omega)
                | (go_wp2
                   go_ret2
                   exact ⟨by rw [HP.out] <;> rfl, rfl⟩)
            · rw [if_neg (by omega)] at hf
              have HP := Lib.hid (tupN_of hf)
              clear hf
              by_cases b4 : 55296 ≤ x
              · have b5 : 57344 ≤ x := by omega
                clear b3
                go_wp2
                go_ret2
                exact ⟨by rw [HP.out] <;> rfl, rfl⟩
              · clear b3
                first
                  | (exfalso; omega)
                  | (go_wp2
                     go_ret2
                     exact ⟨by rw [HP.out] <;> rfl, rfl⟩)
set_option maxRecDepth 100000 in
set_option maxHeartbeats 2000000 in
theorem refAt_lead4 (s : ByteArray) (k c : Nat) (w : World) (hlt : k < s.size) (hs : s.size ≤ 1125899906842624) (hc : c = (s.data.toList.getD k 0).toNat) (g1 : 240 ≤ c) (g2 : c < 248) :
    Calls Tryd.prog 22 #[.string s, .int .i64 (k : Int)] w fun e w' => e = .returned (tupN (at1 (s.data.toList.drop k))) ∧ w' = w := by
  have hl : Lead c 4 (c - 240) 65536 := by unfold Lead; omega
  have hget : ((s[k]'hlt).toNat : Int) = (c : Int) := by rw [hc]; exact str_get s k hlt
  have hlen : s.data.toList.length = s.size := (Lib.size_eq s).symm
  by_cases hkn : s.size < k + 4
  · have HP := Lib.hid (tupN_none (at1_short hc hl (.inl (by rw [hlen]; exact hkn))))
    clear hc hlen hl
    go_enter Tryd.func22, Tryd.ntmps22
    go_wp2
    go_ret2
    exact ⟨by rw [HP.out] <;> rfl, rfl⟩
  · obtain ⟨a, ha⟩ : ∃ a, a = c - 240 := ⟨_, rfl⟩
    rw [← ha] at hl
    have HS := Lib.hid (fun h => tupN_none (@at1_short s.data.toList k c 4 a 65536 hc hl (.inr h)))
    have HF := Lib.hid (fun h => @at1_full s.data.toList k c 4 a 65536 hc hl (by rw [hlen]; omega) h)
    have HA := Lib.hid (fun j h => acc_lt a (dd s.data.toList k) (by omega) j h)
    have HG : Hid (∀ j (hj : j < s.size - k), ((s[k + j]'(by omega)).toNat : Int) = (dd s.data.toList k j : Int)) := fun j hj => str_get s (k + j) (by omega)
    have HD := Lib.hid (dd_lt s.data.toList k)
    obtain ⟨d, hd⟩ : ∃ d, d = dd s.data.toList k := ⟨_, rfl⟩
    rw [← hd] at HS HF HA HG HD
    obtain ⟨P, hP⟩ : ∃ P, P = at1 (s.data.toList.drop k) := ⟨_, rfl⟩
    rw [← hP] at HS HF ⊢
    clear hc hd hP hl
    go_enter Tryd.func22, Tryd.ntmps22
    have hac : (c : Int) - 240 = (a : Int) := by omega
    have ha32 : a < 64 := by omega
    clear ha
    have t0 : decide (s.size ≤ k) = false := decide_eq_false (by omega)
    have t8 : decide ((s.size : Int) < (k : Int) + 4) = false := decide_eq_false (by omega)
    have t1 : decide ((c : Int) < 128) = false := by first | exact decide_eq_true (by omega) | exact decide_eq_false (by omega)
    have t2 : decide ((c : Int) < 224) = false := by first | exact decide_eq_true (by omega) | exact decide_eq_false (by omega)
    have t3 : decide ((c : Int) < 240) = false := by first | exact decide_eq_true (by omega) | exact decide_eq_false (by omega)
    have t4 : decide ((c : Int) < 248) = true := by first | exact decide_eq_true (by omega) | exact decide_eq_false (by omega)
    have t5 : decide ((192 : Int) ≤ (c : Int)) = true := by first | exact decide_eq_true (by omega) | exact decide_eq_false (by omega)
    have t6 : decide ((224 : Int) ≤ (c : Int)) = true := by first | exact decide_eq_true (by omega) | exact decide_eq_false (by omega)
    have t7 : decide ((240 : Int) ≤ (c : Int)) = true := by first | exact decide_eq_true (by omega) | exact decide_eq_false (by omega)
    go_wp2
    clear hget g1 g2 hac t0 t8 t1 t2 t3 t4 t5 t6 t7
    go_loopw [8, 10, 11] (fun r i _ wr => wr = w ∧ ∃ j x : Nat, j < 4 ∧ i = .int .i64 ((j : Int) + 1) ∧ r = .int .i64 (x : Int) ∧ x < 8388608 ∧ Hid (x = acc a d j) ∧ Hid (∀ i, 1 ≤ i → i ≤ j → 128 ≤ d i ∧ d i < 192)) (fun _ i _ _ => 4 - (intOf i).toNat)
    case atStart => exact ⟨rfl, 0, a, by omega, rfl, rfl, by omega, rfl, fun i h1 h2 => by omega⟩
    case round =>
      obtain ⟨rfl, j, x, hj, rfl, rfl, hx, HX, HD2⟩ := hrel
      by_cases hjn : j + 1 < 4
      · have hkj : k + (j + 1) < s.size := by omega
        have hget := HG.out (j + 1) (by omega)
        have hdl := HD.out (j + 1)
        obtain ⟨y, hy⟩ : ∃ y, y = d (j + 1) := ⟨_, rfl⟩
        rw [← hy] at hget hdl
        have HY := Lib.hid hy
        clear hy
        by_cases hbad : y < 128 ∨ 192 ≤ y
        · have HP := Lib.hid (HS.out ⟨j + 1, by omega, hjn, by rw [← HY.out]; exact hbad⟩)
          clear HS HF HA HG HD HX HD2 HY
          rcases hbad with hbad | hbad
          · go_wp2
            go_ret2
            exact ⟨by rw [HP.out] <;> rfl, rfl⟩
          · go_wp2
            go_ret2
            exact ⟨by rw [HP.out] <;> rfl, rfl⟩
        · have h128 : 128 ≤ y := by omega
          have h192 : y < 192 := by omega
          have hd2 : ∀ i, 1 ≤ i → i ≤ j + 1 → 128 ≤ d i ∧ d i < 192 := fun i q1 q2 => by
            by_cases e : i = j + 1
            · rw [e, ← HY.out]; exact ⟨h128, h192⟩
            · exact HD2.out i q1 (by omega)
          have hb := HA.out (j + 1) (fun i q1 q2 => (hd2 i q1 q2).2)
          have hp : 64 ^ (j + 1) ≤ 64 ^ 3 := Nat.pow_le_pow_right (by omega) (by omega)
          have hx2 : 64 * x + (y - 128) = acc a d (j + 1) := by rw [acc_succ, ← HX.out, ← HY.out]
          have hx3 : 64 * x + (y - 128) < 8388608 := by
            rw [hx2]
            generalize 64 ^ (j + 1) = X at hb hp
            generalize acc a d (j + 1) = Y at hb ⊢
            omega
          have HD3 := Lib.hid hd2
          have HX2 := Lib.hid hx2
          clear HS HF HA HG HD HX HD2 HY hbad hd2 hx2 hb hp
          go_wp2
          go_roundw
          case rel => exact ⟨trivial, j + 1, 64 * x + (y - 128), by omega, by go_num, by congr 1; omega, hx3, HX2, HD3⟩
          case measure => simp [intOf]; omega
      · have hj1 : j = 4 - 1 := by omega
        have hf := HF.out (fun i q1 q2 => HD2.out i q1 (by omega))
        rw [← hj1, ← HX.out] at hf
        clear HS HF HA HG HD HX HD2 hj1
        by_cases b1 : x < 65536
        · rw [if_pos (.inl b1)] at hf
          have HP := Lib.hid (tupN_none hf)
          clear hf
          go_wp2
          go_ret2
          exact ⟨by rw [HP.out] <;> rfl, rfl⟩
        · by_cases b2 : 1114111 < x
          · rw [if_pos (.inr (.inl b2))] at hf
            have HP := Lib.hid (tupN_none hf)
            clear hf
            go_wp2
            go_ret2
            exact ⟨by rw [HP.out] <;> rfl, rfl⟩
          · by_cases b3 : 55296 ≤ x ∧ x < 57344
            · rw [if_pos (.inr (.inr b3))] at hf
              have HP := Lib.hid (tupN_none hf)
              obtain ⟨b3, b4⟩ := b3
              clear hf
              first
                | (exfalso; omega)
                | (go_wp2
                   go_ret2
                   exact ⟨by rw [HP.out] <;> rfl, rfl⟩)
            · rw [if_neg (by omega)] at hf
              have HP := Lib.hid (tupN_of hf)
              clear hf
              by_cases b4 : 55296 ≤ x
              · have b5 : 57344 ≤ x := by omega
                clear b3
                go_wp2
                go_ret2
                exact ⟨by rw [HP.out] <;> rfl, rfl⟩
              · clear b3
                first
                  | (exfalso; omega)
                  | (go_wp2
                     go_ret2
                     exact ⟨by rw [HP.out] <;> rfl, rfl⟩)
set_option maxRecDepth 100000 in
set_option maxHeartbeats 2000000 in
theorem refAt_any (s : ByteArray) (k : Nat) (w : World) (hk : k ≤ s.size) (hs : s.size ≤ 1125899906842624) :
    Calls Tryd.prog 22 #[.string s, .int .i64 (k : Int)] w fun e w' => e = .returned (tupN (at1 (s.data.toList.drop k))) ∧ w' = w := by
  by_cases hlt : k < s.size
  · have hlen : k < s.data.toList.length := by rw [← Lib.size_eq]; exact hlt
    obtain ⟨c, hc⟩ : ∃ c, c = (s.data.toList.getD k 0).toNat := ⟨_, rfl⟩
    have hcl : c < 256 := by rw [hc]; exact (s.data.toList.getD k 0).toNat_lt
    have hget : ((s[k]'hlt).toNat : Int) = (c : Int) := by rw [hc]; exact str_get s k hlt
    by_cases c0 : c < 128
    · have HP := Lib.hid (tupN_of (at1_ascii hlen (by rw [← hc]; exact c0)))
      rw [← hc] at HP
      clear hc hlen
      go_enter Tryd.func22, Tryd.ntmps22
      go_wp2
      go_ret2
      exact ⟨by rw [HP.out] <;> rfl, rfl⟩
    by_cases c1 : c < 192 ∨ 248 ≤ c
    · have HP := Lib.hid (tupN_none (@at1_none s.data.toList k (by rw [← hc]; omega)))
      clear hc hlen
      rcases c1 with c1 | c1
      · go_enter Tryd.func22, Tryd.ntmps22
        go_wp2
        go_ret2
        exact ⟨by rw [HP.out] <;> rfl, rfl⟩
      · go_enter Tryd.func22, Tryd.ntmps22
        go_wp2
        go_ret2
        exact ⟨by rw [HP.out] <;> rfl, rfl⟩
    by_cases c2 : c < 224
    · exact refAt_lead2 s k c w hlt hs hc (by omega) c2
    by_cases c3 : c < 240
    · exact refAt_lead3 s k c w hlt hs hc (by omega) c3
    · exact refAt_lead4 s k c w hlt hs hc (by omega) (by omega)
  · have HP := Lib.hid (show tupN (at1 (s.data.toList.drop k)) = .tuple #[.int .i64 0, .int .i64 0] by
      have hd : s.data.toList.drop k = [] := List.drop_eq_nil_of_le (by rw [← Lib.size_eq]; omega)
      rw [hd, at1_nil]; rfl)
    go_enter Tryd.func22, Tryd.ntmps22
    go_wp2
    go_ret2
    exact ⟨by rw [HP.out] <;> rfl, rfl⟩
end Go.Proofs.YtgeefnmgejnemaaDoor
