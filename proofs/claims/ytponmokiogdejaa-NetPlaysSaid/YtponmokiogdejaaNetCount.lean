import Derived.Test.YtponmokiogdejaaNetAll
namespace Go.Proofs.Ytponmokiogdejaa
open Go.RowKit
set_option linter.unusedSimpArgs false
set_option linter.unusedVariables false

def countL (tw : Nat) (L : List Let) : Nat := L.countP fun x => x.to == tw
theorem countL_take {tw : Nat} {L : List Let} {j : Nat} (h : j < L.length) : countL tw (L.take (j + 1)) = countL tw (L.take j) + if L[j].to == tw then 1 else 0 := by
  unfold countL
  rw [List.take_succ_eq_append_getElem h, List.countP_append]
  simp [List.countP_cons, List.countP_nil]
set_option maxRecDepth 100000 in
set_option maxHeartbeats 4000000 in
theorem count_any (M : Nat → Prop) (g0 tw : Nat) (L : List Let) (w : World) (h : NetO w M g0 L) (hL : L.length ≤ 1000000) :
    Calls Try.prog 27 #[.pointer (some ⟨g0, 0, none⟩), .int .u64 (tw : Int)] w (Bad w (countL tw L)) := by
  obtain ⟨A, c, xs0, hn⟩ := h
  have hg0 := hn.2.2.2.2.2.1
  have HQ := Lib.hid fun W (hW : Below w.heap.size w W) => (hW.cell (p := ⟨g0, 0, none⟩) hg0).trans hn.1
  have C1 := Lib.hid fun W (hW : Below w.heap.size w W) => lenAt_any W (HQ.out W hW)
  have HN := Lib.hid hn
  clear hn
  go_enter Try.func27, Try.ntmps27
  go_wp2_with fail
  ((with_reducible refine (C1.out _ (Below.refl _ _)).mono ?_); rintro e w0 ⟨rfl, b0⟩)
  have q0 := HQ.out w0 b0
  clear C1 HQ
  go_wp2
  go_loop [5, 9] (fun r i => ∃ (j q : Nat), j ≤ L.length ∧ i = .int .i64 j ∧ r = .int .i64 q ∧ q ≤ j ∧ Hid (q = countL tw (L.take j))) (fun _ i => L.length - (intOf i).toNat)
  case atStart => exact ⟨0, 0, Nat.zero_le _, rfl, rfl, Nat.le_refl _, by simp [Hid, countL]⟩
  case round =>
    obtain ⟨j, q, hj, rfl, rfl, hq, HQ⟩ := hrel
    by_cases hlt : j < L.length
    · obtain ⟨b, B, d, hA, hMb, hbg, hbs, ⟨a0, a1, a2⟩, -, hto, hfr, hd, hF⟩ := net_row HN.out hlt
      have a0 := (b0.cell (p := ⟨b, j * 3, none⟩) hbs).trans a0
      have hT := countL_take (tw := tw) hlt
      subst hA
      clear hF a1 a2
      by_cases e : L[j].to = tw
      · have e1 : (((L[j].to : Nat) : Int) == (tw : Int)) = true := by simp [e]
        have HN2 : Hid (q + 1 = countL tw (L.take (j + 1))) := by rw [hT, if_pos (by simp [e]), ← HQ.out]; rfl
        clear hT HQ e
        go_wp2
        go_round
        case rel => exact ⟨j + 1, q + 1, by omega, by go_num, by go_num, by omega, HN2⟩
        case measure => simp [intOf]; omega
      · have e1 : (((L[j].to : Nat) : Int) == (tw : Int)) = false := by rw [beq_eq_false_iff_ne]; omega
        have HN2 : Hid (q = countL tw (L.take (j + 1))) := by rw [hT, if_neg (by simp [e]), ← HQ.out]; rfl
        clear hT HQ e
        go_wp2
        go_round
        case rel => exact ⟨j + 1, q, by omega, by go_num, rfl, by omega, HN2⟩
        case measure => simp [intOf]; omega
    · have HN2 : Hid (q = countL tw L) := by
        have h1 := HQ.out
        rw [List.take_of_length_le (by omega)] at h1
        exact h1
      clear HQ
      go_wp2
      go_ret
      exact ⟨by rw [← HN2.out]; rfl, b0⟩
end Go.Proofs.Ytponmokiogdejaa
