import Derived.Test.YtponmokiogdejaaCrcRef2
namespace Go.Proofs.Ytponmokiogdejaa
open Go.RowKit Crc

set_option maxHeartbeats 400000 in
theorem equal_any (A1 A2 : Option Addr) (c1 c2 B : Nat) (l1 l2 : List UInt8) (w : World) (h1 : At w B 1 A1 l1.length (l1.map u8v)) (h2 : At w B 1 A2 l2.length (l2.map u8v)) (hm1 : l1.length ≤ 9223372036854775807) :
    Calls Try.prog 53 #[.slice A1 l1.length c1, .slice A2 l2.length c2] w fun e w' => e = .returned (.bool (l1 == l2)) ∧ Dr w w' := by
  by_cases hl : l1.length = l2.length
  · have Hl := Lib.hid hl
    clear hl
    have hnl : (((l1.length : Nat) : Int) != (l2.length : Int)) = false := by rw [Hl.out]; simp
    go_enter Try.func53, Try.ntmps53
    go_wp2
    go_loopw [13] (fun i wr => ∃ k : Nat, k ≤ l1.length ∧ i = .int .i64 k ∧ Hid (l1.take k = l2.take k) ∧ Dr w wr) (fun i _ => l1.length - (intOf i).toNat)
    case atStart => exact ⟨0, Nat.zero_le _, rfl, by simp [Hid], Dr.refl _⟩
    case round =>
      obtain ⟨k, hk, rfl, HT, n, rfl⟩ := hrel
      by_cases hlt : k < l1.length
      · have hlt2 : k < l2.length := by have := Hl.out; omega
        obtain ⟨b1, o1, u1, rfl, _, hu1, hc1⟩ := h1.at1 hlt
        obtain ⟨b2, o2, u2, rfl, _, hu2, hc2⟩ := h2.at1 hlt2
        rw [u8v_map_get _ _ hlt] at hu1
        rw [u8v_map_get _ _ hlt2] at hu2
        injection hu1 with hu1
        injection hu2 with hu2
        subst hu1 hu2
        clear h1 h2
        by_cases e : (l1[k]'hlt).toNat = (l2[k]'hlt2).toNat
        · have HN : Hid (l1.take (k + 1) = l2.take (k + 1)) := take_eq_succ HT.out hlt hlt2 e
          have hb : ((((l1[k]'hlt).toNat : Nat) : Int) != (((l2[k]'hlt2).toNat : Nat) : Int)) = false := by rw [e]; simp
          clear e HT
          go_wp2
          go_quiet (fail)
          go_wp2
          go_roundw
          case rel => exact ⟨k + 1, by omega, by go_num, HN, (by first | exact Dr.refl _ | exact Dr.one _ _ | exact Dr.two _ _ _)⟩
          case measure => simp [intOf]; omega
        · have HN : Hid ((l1 == l2) = false) := ne_of_get hlt hlt2 e
          have hb : ((((l1[k]'hlt).toNat : Nat) : Int) != (((l2[k]'hlt2).toNat : Nat) : Int)) = true := by rw [bne_iff_ne]; omega
          clear e HT
          go_wp2
          go_quiet (fail)
          go_wp2
          go_ret
          exact ⟨by rw [HN.out]; rfl, (by first | exact Dr.refl _ | exact Dr.one _ _ | exact Dr.two _ _ _)⟩
      · have hE : (l1 == l2) = true := by
          have := HT.out
          rw [List.take_of_length_le (by omega), List.take_of_length_le (by have := Hl.out; omega)] at this
          simp [this]
        have HE := Lib.hid hE
        clear hE HT
        go_wp2
        go_ret
        exact ⟨by rw [HE.out]; rfl, (by first | exact Dr.refl _ | exact Dr.one _ _ | exact Dr.two _ _ _)⟩
  · go_enter Try.func53, Try.ntmps53
    go_wp2
    go_ret
    refine ⟨?_, Dr.refl _⟩
    rw [beq_eq_false_iff_ne.2 (fun e => hl (by rw [e]))]
    rfl

set_option maxHeartbeats 400000 in
theorem clone_any (A : Option Addr) (c B : Nat) (l : List UInt8) (w : World) (h1 : At w B 1 A l.length (l.map u8v)) (hB : B ≤ w.heap.size) (hm : l.length ≤ 140737488355328) :
    Calls Try.prog 46 #[.slice A l.length c] w (MadeB w l) := by
  obtain ⟨i0, hi, hz0, hz1, hz2⟩ := info_parts info_u8
  cases A with
  | none =>
    have hl : l = [] := by
      rcases l with _ | ⟨x, l⟩
      · rfl
      · obtain ⟨_, _, h, _⟩ := h1.2 (by simp); cases h
    subst hl
    have heq : ∀ W : World, _ := fun W => Lib.run_eql_slice_nil (P := Try.prog) W 34 5 none 0 c 0 0 Try.underlying34
    go_enter Try.func46, Try.ntmps46
    go_wp2
    go_ret
    exact ⟨_, rfl, World.ownsRow_nil _ _ _ _, Below.refl _ _⟩
  | some ad =>
    have heq : ∀ W : World, _ := fun W => Lib.run_eql_slice_nil (P := Try.prog) W 34 5 (some ad) l.length c 0 0 Try.underlying34
    go_enter Try.func46, Try.ntmps46
    go_wp2_with (at_builtin; refine wpList_append_from _ rfl _ _ 34 rfl w.heap.size 5 i0 (.int .u8 0) 1 1 Try.underlying34 hi hz0 hz1 hz2 rfl (by decide) _ 0 [] rfl (World.ownsRow_made w #[] 0 (Nat.le_refl _) (Nat.zero_le _) rfl) B (some ad) l.length c (l.map u8v) rfl (h1.alloc hB _) (one_u8 l) (by unfold maxLen; omega) (by omega) (by simp) ?_; intro v' w1 hown hg _)
    simp only [Nat.zero_add, List.nil_append] at hown
    have hb : Below w.heap.size w w1 := ((Below.refl _ w).alloc (Nat.le_refl _) _).trans (grown_below (World.ownsRow_made w #[] 0 (Nat.le_refl _) (Nat.zero_le _) rfl (e := 5) (size := 1)) hg (by simp))
    go_ret
    exact ⟨_, rfl, hown, hb⟩
end Go.Proofs.Ytponmokiogdejaa
