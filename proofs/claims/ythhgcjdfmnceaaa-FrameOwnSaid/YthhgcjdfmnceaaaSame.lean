import Derived.Test.YthhgcjdfmnceaaaWords
namespace Go.Proofs.Ythhgcjdfmnceaaa
open Go.RowKit

theorem take_eq_succ {l1 l2 : List UInt8} {k : Nat} (h : l1.take k = l2.take k) (h1 : k < l1.length) (h2 : k < l2.length) (e : (l1[k]'h1).toNat = (l2[k]'h2).toNat) : l1.take (k + 1) = l2.take (k + 1) := by
  have e' : l1[k]'h1 = l2[k]'h2 := UInt8.toNat_inj.1 e
  rw [List.take_succ_eq_append_getElem h1, List.take_succ_eq_append_getElem h2, h, e']
theorem ne_of_get {l1 l2 : List UInt8} {k : Nat} (h1 : k < l1.length) (h2 : k < l2.length) (e : ¬ (l1[k]'h1).toNat = (l2[k]'h2).toNat) : (l1 == l2) = false := by
  rw [beq_eq_false_iff_ne]
  rintro rfl
  exact e rfl

set_option maxHeartbeats 400000 in
theorem same_any (A1 A2 : Option Addr) (c1 c2 B : Nat) (l1 l2 : List UInt8) (w : World) (h1 : At w B 1 A1 l1.length (l1.map u8v)) (h2 : At w B 1 A2 l2.length (l2.map u8v)) (hm1 : l1.length ≤ 9223372036854775807) :
    Calls Try.prog 13 #[.slice A1 l1.length c1, .slice A2 l2.length c2] w fun e w' => e = .returned (.bool (l1 == l2)) ∧ Dr w w' := by
  by_cases hl : l1.length = l2.length
  · have Hl := Lib.hid hl
    clear hl
    have hnl : (((l1.length : Nat) : Int) != (l2.length : Int)) = false := by rw [Hl.out]; simp
    go_enter Try.func13, Try.ntmps13
    go_wp2
    go_loopw [5] (fun i wr => ∃ k : Nat, k ≤ l1.length ∧ i = .int .i64 k ∧ Hid (l1.take k = l2.take k) ∧ Dr w wr) (fun i _ => l1.length - (intOf i).toNat)
    case atStart => exact ⟨0, Nat.zero_le _, rfl, by simp [Hid], Dr.refl _⟩
    case round =>
      obtain ⟨k, hk, rfl, HT, n, rfl⟩ := hrel
      by_cases hlt : k < l1.length
      · have hlt2 : k < l2.length := by have := Hl.out; omega
        obtain ⟨b1, o1, u1, rfl, _, hu1, hc1⟩ := h1.at1 hlt
        obtain ⟨b2, o2, u2, rfl, _, hu2, hc2⟩ := h2.at1 hlt2
        rw [u8v_map_get _ _ hlt] at hu1
        rw [u8v_map_get _ _ hlt2] at hu2
        injection hu1 with hu1
        injection hu2 with hu2
        subst hu1 hu2
        clear h1 h2
        by_cases e : (l1[k]'hlt).toNat = (l2[k]'hlt2).toNat
        · have HN : Hid (l1.take (k + 1) = l2.take (k + 1)) := take_eq_succ HT.out hlt hlt2 e
          have hb : ((((l1[k]'hlt).toNat : Nat) : Int) != (((l2[k]'hlt2).toNat : Nat) : Int)) = false := by rw [e]; simp
          clear e HT
          go_wp2
          go_quiet (fail)
          go_wp2
          go_roundw
          case rel => exact ⟨k + 1, by omega, by go_num, HN, (by first | exact Dr.refl _ | exact Dr.one _ _ | exact Dr.two _ _ _)⟩
          case measure => simp [intOf]; omega
        · have HN : Hid ((l1 == l2) = false) := ne_of_get hlt hlt2 e
          have hb : ((((l1[k]'hlt).toNat : Nat) : Int) != (((l2[k]'hlt2).toNat : Nat) : Int)) = true := by rw [bne_iff_ne]; omega
          clear e HT
          go_wp2
          go_quiet (fail)
          go_wp2
          go_ret
          exact ⟨by rw [HN.out]; rfl, (by first | exact Dr.refl _ | exact Dr.one _ _ | exact Dr.two _ _ _)⟩
      · have hE : (l1 == l2) = true := by
          have := HT.out
          rw [List.take_of_length_le (by omega), List.take_of_length_le (by have := Hl.out; omega)] at this
          simp [this]
        have HE := Lib.hid hE
        clear hE HT
        go_wp2
        go_ret
        exact ⟨by rw [HE.out]; rfl, (by first | exact Dr.refl _ | exact Dr.one _ _ | exact Dr.two _ _ _)⟩
  · go_enter Try.func13, Try.ntmps13
    go_wp2
    go_ret
    refine ⟨?_, Dr.refl _⟩
    rw [beq_eq_false_iff_ne.2 (fun e => hl (by rw [e]))]
    rfl
end Go.Proofs.Ythhgcjdfmnceaaa
