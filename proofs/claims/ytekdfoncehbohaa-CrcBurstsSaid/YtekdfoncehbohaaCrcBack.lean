/- CrcBack answers true at every input, and every argument reads afterwards as it did: 'crcBack_proved'. Conditions: none but the statement's own. -/
import Derived.Test.YtekdfoncehbohaaCrcLaws
namespace Go.Proofs.Ytekdfoncehbohaa
open Go.RowKit Crc

theorem seal_take (l : List UInt8) : (seal_ l).take ((seal_ l).length - 4) = l := by
  rw [seal_len]
  unfold seal_
  rw [show l.length + 4 - 4 = l.length from by omega]
  simp
theorem sealed_seal (l : List UInt8) : sealed (seal_ l) = true := by
  unfold sealed
  rw [seal_take, seal_len]
  simp
theorem opened_seal (l : List UInt8) : opened (seal_ l) = l := by
  unfold opened
  rw [sealed_seal, if_pos rfl, seal_take]
theorem seal_opened {l : List UInt8} (h : sealed l = true) : seal_ (opened l) = l := by
  unfold opened
  rw [h, if_pos rfl]
  unfold sealed at h
  simp only [Bool.and_eq_true, beq_iff_eq] at h
  exact h.2

set_option maxHeartbeats 2000000 in
theorem crcBack_walk (A0 : Option Addr) (c0 : Nat) (l0 : List UInt8) (A1 : Option Addr) (c1 : Nat) (l1 : List UInt8) (w : World)
    (h0 : At w w.heap.size 1 A0 l0.length (l0.map u8v)) (hc0 : l0.length ≤ c0) (_hm0 : c0 ≤ 140737488351232)
    (h1 : At w w.heap.size 1 A1 l1.length (l1.map u8v)) (hc1 : l1.length ≤ c1) (_hm1 : c1 ≤ 140737488351232) :
    Calls Try.prog 6 #[.slice A0 l0.length c0, .slice A1 l1.length c1] w fun e w' => e = .returned (.bool true) ∧ Below w.heap.size w w' := by
  have S0 : (l0 == l0) = true := by simp
  have S1 : (l1 == l1) = true := by simp
  have HO := Lib.hid (opened_seal l0)
  have HS := Lib.hid (sealed_seal l0)
  have HL := Lib.hid (seal_len l0)
  have hol := opened_le l1
  cases hx : sealed l1
  all_goals
    have HX := Lib.hid hx
    clear hx
    go_enter Try.func6, Try.ntmps6
    go_wp2_with fail
    refine (own_at A0 c0 w.heap.size l0 w h0 (by omega)).mono ?_
    rintro e w1 ⟨A2, c2, rfl, hat1, _, b1⟩
    go_wp2_with fail
    refine (seal_at A2 c2 w1.heap.size l0 w1 hat1 (Nat.le_refl _) (by omega)).mono ?_
    rintro e w2 ⟨A3, c3, rfl, hat2, hc3, b2⟩
    have k2 := bthen b1 b2
    clear hat1
    have cs := open_at A3 c3 w2.heap.size (seal_ l0) w2 hat2 (Nat.le_refl _) hc3 (by rw [HL.out]; omega)
    rw [HO.out, HS.out] at cs
    have HC := Lib.hid cs
    clear cs hat2
    go_wp2_with fail
    refine HC.out.mono ?_
    rintro e w3 ⟨A4, c4, rfl, hat4, hc4, b3⟩
    have k3 := bthen k2 b3
    clear HC
    have cs := same_any A4 A0 c4 c0 w3.heap.size l0 l0 w3 hat4 (h0.arg k3) (by omega)
    rw [S0] at cs
    have HC := Lib.hid cs
    clear cs hat4
    go_wp2_with fail
    refine HC.out.mono ?_
    rintro e w4 ⟨rfl, b4⟩
    have k4 := bthen k3 (b4.below _)
    clear HC
    go_wp2_with fail
    refine (own_at A1 c1 w.heap.size l1 w4 (h1.below k4 (Nat.le_refl _)) (by omega)).mono ?_
    rintro e w5 ⟨A5, c5, rfl, hat5, hc5, b5⟩
    have k5 := bthen k4 b5
    have cs := open_at A5 c5 w5.heap.size l1 w5 hat5 (Nat.le_refl _) hc5 (by omega)
    rw [HX.out] at cs
    have HC := Lib.hid cs
    clear cs hat5
    go_wp2_with fail
    refine HC.out.mono ?_
    rintro e w6 ⟨A6, c6, rfl, hat6, hc6, b6⟩
    have k6 := bthen k5 b6
    clear HC
  · go_wp2_with fail
    refine (known_any w6).mono ?_
    rintro e w7 ⟨rfl, b7⟩
    have k7 := bthen k6 b7
    go_wp2
    go_ret
    exact ⟨rfl, k7⟩
  · have h4 : 4 ≤ l1.length := by
      have := HX.out
      unfold sealed at this
      simp at this
      exact this.1
    have hol2 : (opened l1).length + 4 ≤ l1.length := by
      unfold opened
      rw [HX.out, if_pos rfl, List.length_take]
      omega
    have cs := seal_at A6 c6 w6.heap.size (opened l1) w6 hat6 (Nat.le_refl _) (by omega)
    rw [seal_opened HX.out] at cs
    have HC := Lib.hid cs
    clear cs hat6
    go_wp2_with fail
    refine HC.out.mono ?_
    rintro e w7 ⟨A7, c7, rfl, hat7, hc7, b7⟩
    have k7 := bthen k6 b7
    clear HC
    have cs := same_any A7 A1 c7 c1 w7.heap.size l1 l1 w7 hat7 (h1.arg k7) (by omega)
    rw [S1] at cs
    have HC := Lib.hid cs
    clear cs hat7
    go_wp2_with fail
    refine HC.out.mono ?_
    rintro e w8 ⟨rfl, b8⟩
    have k8 := bthen k7 (b8.below _)
    clear HC
    go_wp2_with fail
    refine (known_any w8).mono ?_
    rintro e w9 ⟨rfl, b9⟩
    have k9 := bthen k8 b9
    go_wp2
    go_ret
    exact ⟨rfl, k9⟩

open Go.ChangeShapes Go.WideShapes in
open Go.ChangeMaps (open_string) in
theorem crcBack_law : LawWalk Try.prog 6 Try.f6 := by
  intro H enc W base args ds p hval hA hsz
  rw [Try.params6] at hA hval hsz
  obtain ⟨v0, vs0, d0, ds0, p0, q0, hargs, rfl, rfl, h0, r0⟩ := trodAll_cons hA
  obtain ⟨v1, vs1, d1, ds1, p1, q1, rfl, rfl, rfl, h1, r1⟩ := trodAll_cons r0
  obtain ⟨rfl, rfl, rfl⟩ := trodAll_nil r1
  obtain rfl : args = #[v0, v1] := by cases args; simp_all
  obtain ⟨A0, c0, l0, rfl, hat0, hlc0, hd0⟩ := open_bytes Try.underlying22 Try.underlying5 (by kernel_rfl) (hval 0 _ v0 rfl rfl) h0
  obtain ⟨A1, c1, l1, rfl, hat1, hlc1, hd1⟩ := open_bytes Try.underlying22 Try.underlying5 (by kernel_rfl) (hval 1 _ v1 rfl rfl) h1
  exact crcBack_walk A0 c0 l0 A1 c1 l1 W hat0 hlc0 (bytes_reach hsz (j := 0) rfl rfl hlc0 hd0).2 hat1 hlc1 (bytes_reach hsz (j := 1) rfl rfl hlc1 hd1).2

set_option maxRecDepth 100000 in
theorem crcBack_lifted (os : Os) (started : os.Started) (H : Type) (enc : TypeId × Value → H) :
    ReturnsInHanded {} Try.checked os 6 .any (Rows.crcBackSpec.pre6 enc Try.prog Try.f6 Rows.crcBackRow.domain false) (Rows.crcBackSpec.post enc Try.prog Try.f6 false true false false) :=
  law_lifted (s := Rows.crcBackSpec) started (by kernel_rfl) Try.func6 Try.underlying4 rfl rfl
    (by rw [Try.params6]; simp only [List.mem_cons, List.not_mem_nil, or_false, forall_eq_or_imp, forall_eq]; exact ⟨⟨by kernel_rfl, of_decide_eq_true (by kernel_rfl)⟩, ⟨by kernel_rfl, of_decide_eq_true (by kernel_rfl)⟩⟩)
    (fun H ds hl => by match ds, hl with | [_, _], _ => rfl)
    (ChangeSpec.witness6 (enc := enc) (C := Try.checked) false ⟨#[], #[.slice none 0 0, .slice none 0 0], []⟩ 8 (by kernel_rfl) (by kernel_rfl) (by kernel_rfl) (by kernel_rfl)) crcBack_law

theorem crcBack_over : Rows.crcBackRow.holds Try.pinned (OpenSpec.ofChange Rows.crcBackSpec) :=
  OpenClaim.holds_of_wide 6 Try.f6 rfl rfl rfl rfl rfl rfl rfl ⟨rfl, rfl, rfl, rfl, rfl⟩ rfl rfl rfl rfl rfl (by kernel_rfl) Try.func6 (by kernel_rfl)
    (of_decide_eq_true (by kernel_rfl)) (by unfold Func.isWrapper; first | (rw [if_pos (by decide +kernel)]; kernel_rfl) | (rw [if_neg (by decide +kernel)]; exact ⟨rfl, rfl⟩))
    (fun os started H enc _ => crcBack_lifted os started H enc)

theorem crcBack_proved : Rows.CrcBackSaid := crcBack_over

end Go.Proofs.Ytekdfoncehbohaa
