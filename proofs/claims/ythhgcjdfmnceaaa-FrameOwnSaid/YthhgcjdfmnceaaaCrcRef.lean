import Derived.Test.YthhgcjdfmnceaaaSame
import Derived.Test.YthhgcjdfmnceaaaCrcSpec
namespace Go.Proofs.Ythhgcjdfmnceaaa
open Go.RowKit Crc

theorem ret_u32 {a b : Int} (h : a = b) : Ending.returned (.int .u32 a) = .returned (.int .u32 b) := by rw [h]

theorem bit_yes {r b : Nat} (h : r % 2 = b) : ((r : Int) / 2) = (bit r b : Nat) := by unfold bit; rw [if_pos h]; omega
theorem bit_no {r b : Nat} (hr : r < 4294967296) (h : ¬ r % 2 = b) : bits BinOp.xor IntKind.u32 ((r : Int) / 2) 3988292384 = (bit r b : Nat) := by
  unfold bit
  rw [if_neg h]
  have := u32_xor_nat (r / 2) 3988292384 (by omega) (by omega)
  rw [← this]
  rfl

set_option maxHeartbeats 400000 in
theorem go1_any (r b : Nat) (w : World) (hr : r < 4294967296) (hb : b < 2) :
    Calls Try.prog 39 #[.int .u32 (r : Int), .int .u32 (b : Int)] w fun e w' => e = .returned (.int .u32 (bit r b : Nat)) ∧ w = w' := by
  by_cases h : r % 2 = b
  · have HY := Lib.hid (bit_yes h)
    go_enter Try.func39, Try.ntmps39
    go_wp2
    go_ret
    exact ⟨ret_u32 HY.out, rfl⟩
  · have HN := Lib.hid (bit_no hr h)
    go_enter Try.func39, Try.ntmps39
    go_wp2
    go_ret
    exact ⟨ret_u32 HN.out, rfl⟩

theorem reg_take_succ (r : Nat) (l : List UInt8) (k : Nat) (h : k < l.length) : reg r (l.take (k + 1)) = stepB (reg r (l.take k)) (l[k]'h).toNat := by
  rw [List.take_succ_eq_append_getElem h, reg_snoc]

set_option maxHeartbeats 1000000 in
theorem refMore_any (s : Nat) (A : Option Addr) (c B : Nat) (l : List UInt8) (w : World) (hs : s < 4294967296) (h1 : At w B 1 A l.length (l.map u8v)) (hm : l.length ≤ 9223372036854775807) :
    Calls Try.prog 36 #[.int .u32 (s : Int), .slice A l.length c] w fun e w' => e = .returned (.int .u32 (more s l : Nat)) ∧ w = w' := by
  have hreg : ∀ k, reg (4294967295 - s) (l.take k) < 4294967296 := fun k => reg_lt _ (by omega)
  have HR := Lib.hid hreg
  clear hreg
  go_enter Try.func36, Try.ntmps36
  go_wp2
  go_loop [5, 6] (fun r i => ∃ (k x : Nat), k ≤ l.length ∧ i = .int .i64 k ∧ x < 4294967296 ∧ r = .int .u32 (x : Int) ∧ Hid (x = reg (4294967295 - s) (l.take k))) (fun _ i => l.length - (intOf i).toNat)
  case atStart => exact ⟨0, 4294967295 - s, Nat.zero_le _, rfl, by omega, by go_num, rfl⟩
  case round =>
    obtain ⟨k, x, hk, rfl, hx, rfl, HX⟩ := hrel
    by_cases hlt : k < l.length
    · obtain ⟨b1, o1, u1, rfl, _, hu1, hc1⟩ := h1.at1 hlt
      rw [u8v_map_get _ _ hlt] at hu1
      injection hu1 with hu1
      subst hu1
      have hb := u8_lt (l[k]'hlt)
      clear h1
      obtain ⟨cc, hcc⟩ : ∃ cc, cc = (l[k]'hlt).toNat := ⟨_, rfl⟩
      rw [← hcc] at hb hc1
      have HC := Lib.hid hcc
      clear hcc
      go_wp2
      go_loop [5, 7, 8] (fun r c j => ∃ (i y z : Nat), i ≤ 8 ∧ j = .int .i64 i ∧ y < 4294967296 ∧ z < 4294967296 ∧ r = .int .u32 (y : Int) ∧ c = .int .u32 (z : Int) ∧ Hid (y = refR i x cc ∧ z = cc / 2 ^ i)) (fun _ _ j => 8 - (intOf j).toNat)
      case atStart => exact ⟨0, x, cc, by omega, rfl, hx, by omega, rfl, rfl, rfl, by simp⟩
      case round =>
        obtain ⟨i, y, z, hi, rfl, hy, hz, rfl, rfl, HZ⟩ := hrel
        by_cases hi8 : i < 8
        · have c1 := go1_any y (z % 2) w hy (by omega)
          go_wp2_with (go_at_call 39; refine c1.mono ?_; rintro e w' ⟨rfl, rfl⟩)
          have HN : Hid (bit y (z % 2) = refR (i + 1) x cc ∧ z / 2 = cc / 2 ^ (i + 1)) := by
            rw [refR_succ, ← HZ.out.1, ← HZ.out.2, Nat.pow_succ, ← Nat.div_div_eq_div_mul, ← HZ.out.2]
            exact ⟨rfl, rfl⟩
          have hbl := bit_lt (r := y) (b := z % 2) hy
          clear HZ c1
          go_round
          case rel => exact ⟨i + 1, bit y (z % 2), z / 2, by omega, by go_num, hbl, by omega, rfl, by go_num, HN⟩
          case measure => simp [intOf]; omega
        · have hi9 : i = 8 := by omega
          have HN : Hid (y = reg (4294967295 - s) (l.take (k + 1))) := by
            have h1 := HZ.out.1
            rw [hi9, HC.out, refR_byte, HX.out, ← reg_take_succ _ _ _ hlt] at h1
            exact h1
          clear HZ HX HC hi9
          go_wp2
          go_round
          case rel => exact ⟨k + 1, y, by omega, by go_num, hy, rfl, HN⟩
          case measure => simp [intOf]; omega
    · have HN : Hid (x = reg (4294967295 - s) l) := by
        have h1 := HX.out
        rw [List.take_of_length_le (by omega)] at h1
        exact h1
      clear HX
      go_wp2
      go_ret
      exact ⟨ret_u32 (by unfold more; rw [← HN.out]; omega), rfl⟩

set_option maxHeartbeats 400000 in
theorem refSum_any (A : Option Addr) (c B : Nat) (l : List UInt8) (w : World) (h1 : At w B 1 A l.length (l.map u8v)) (hm : l.length ≤ 9223372036854775807) :
    Calls Try.prog 33 #[.slice A l.length c] w fun e w' => e = .returned (.int .u32 (sum l : Nat)) ∧ w = w' := by
  have c1 := refMore_any 0 A c B l w (by omega) h1 hm
  go_enter Try.func33, Try.ntmps33
  go_wp2_with (go_at_call 36; refine c1.mono ?_; rintro e w' ⟨rfl, rfl⟩)
  go_ret
  exact ⟨rfl, rfl⟩
end Go.Proofs.Ythhgcjdfmnceaaa
