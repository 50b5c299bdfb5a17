/- CrcSums answers true at every input, and every argument reads afterwards as it did: 'crcSums_proved'. Conditions: none but the statement's own. -/
import Derived.Test.YtekdfoncehbohaaCrcKnown
import Derived.Test.YtekdfoncehbohaaLaw
namespace Go.Proofs.Ytekdfoncehbohaa
open Go.RowKit Crc

set_option maxHeartbeats 1000000 in
theorem crcSums_walk (A : Option Addr) (c : Nat) (l : List UInt8) (s : Nat) (w : World) (h1 : At w w.heap.size 1 A l.length (l.map u8v)) (hlc : l.length ≤ c) (hm : c ≤ 140737488351232) (hs : s < 4294967296) :
    Calls Try.prog 3 #[.slice A l.length c, .int .u32 (s : Int)] w fun e w' => e = .returned (.bool true) ∧ Below w.heap.size w w' := by
  go_enter Try.func3, Try.ntmps3
  go_wp2_with fail
  refine (own_any A c w.heap.size l w h1 (by omega)).mono ?_
  rintro e w1 ⟨v, rfl, hown, hb1⟩
  obtain ⟨A1, c1, rfl, _, _, hat⟩ := own_slice hown
  go_wp2_with fail
  refine (sum_any A1 c1 w1.heap.size l w1 hat (Nat.le_refl _) (by omega)).mono ?_
  rintro e w2 ⟨rfl, hb2⟩
  clear hat hown
  have hb2' := hb1.trans (hb2.mono hb1.size)
  go_wp2_with fail
  refine (refSum_any A c w.heap.size l w2 (h1.below hb2' (Nat.le_refl _)) (by omega)).mono ?_
  rintro e w3 ⟨rfl, rfl⟩
  go_wp2_with fail
  refine (own_any A c w.heap.size l w2 (h1.below hb2' (Nat.le_refl _)) (by omega)).mono ?_
  rintro e w3 ⟨v, rfl, hown, hb3⟩
  obtain ⟨A3, c3, rfl, _, _, hat⟩ := own_slice hown
  have hb3' := hb2'.trans (hb3.mono hb2'.size)
  go_wp2_with fail
  refine (more_any s A3 c3 w3.heap.size l w3 hs hat (Nat.le_refl _) (by omega)).mono ?_
  rintro e w4 ⟨rfl, hb4⟩
  clear hat hown
  have hb4' := hb3'.trans (hb4.mono hb3'.size)
  go_wp2_with fail
  refine (refMore_any s A c w.heap.size l w4 hs (h1.below hb4' (Nat.le_refl _)) (by omega)).mono ?_
  rintro e w5 ⟨rfl, rfl⟩
  go_wp2_with fail
  refine (known_any w4).mono ?_
  rintro e w5 ⟨rfl, hb5⟩
  have hb5' := hb4'.trans (hb5.mono hb4'.size)
  go_wp2
  go_ret
  exact ⟨rfl, hb5'⟩


open Go.ChangeShapes Go.WideShapes in
open Go.ChangeMaps (open_string) in
theorem crcSums_law : LawWalk Try.prog 3 Try.f3 := by
  intro H enc W base args ds p hval hA hsz
  rw [Try.params3] at hA hval hsz
  obtain ⟨v0, vs0, d0, ds0, p0, q0, hargs, rfl, rfl, h0, r0⟩ := trodAll_cons hA
  obtain ⟨v1, vs1, d1, ds1, p1, q1, rfl, rfl, rfl, h1, r1⟩ := trodAll_cons r0
  obtain ⟨rfl, rfl, rfl⟩ := trodAll_nil r1
  obtain rfl : args = #[v0, v1] := by cases args; simp_all
  obtain ⟨A0, c0, l0, rfl, hat0, hlc0, hd0⟩ := open_bytes Try.underlying22 Try.underlying5 (by kernel_rfl) (hval 0 _ v0 rfl rfl) h0
  obtain ⟨n1, rfl, rfl, rfl, wn1⟩ := open_int Try.underlying23 (hval 1 _ v1 rfl rfl) h1
  obtain ⟨s1, rfl, hs1⟩ := u32_nat wn1
  exact crcSums_walk A0 c0 l0 s1 W hat0 hlc0 (bytes_reach hsz (j := 0) rfl rfl hlc0 hd0).2 hs1

set_option maxRecDepth 100000 in
theorem crcSums_lifted (os : Os) (started : os.Started) (H : Type) (enc : TypeId × Value → H) :
    ReturnsInHanded {} Try.checked os 3 .any (Rows.crcSumsSpec.pre6 enc Try.prog Try.f3 Rows.crcSumsRow.domain false) (Rows.crcSumsSpec.post enc Try.prog Try.f3 false true false false) :=
  law_lifted (s := Rows.crcSumsSpec) started (by kernel_rfl) Try.func3 Try.underlying4 rfl rfl
    (by rw [Try.params3]; simp only [List.mem_cons, List.not_mem_nil, or_false, forall_eq_or_imp, forall_eq]; exact ⟨⟨by kernel_rfl, of_decide_eq_true (by kernel_rfl)⟩, ⟨by kernel_rfl, of_decide_eq_true (by kernel_rfl)⟩⟩)
    (fun H ds hl => by match ds, hl with | [_, _], _ => rfl)
    (ChangeSpec.witness6 (enc := enc) (C := Try.checked) false ⟨#[], #[.slice none 0 0, .int .u32 0], []⟩ 8 (by kernel_rfl) (by kernel_rfl) (by kernel_rfl) (by kernel_rfl)) crcSums_law

theorem crcSums_over : Rows.crcSumsRow.holds Try.pinned (OpenSpec.ofChange Rows.crcSumsSpec) :=
  OpenClaim.holds_of_wide 3 Try.f3 rfl rfl rfl rfl rfl rfl rfl ⟨rfl, rfl, rfl, rfl, rfl⟩ rfl rfl rfl rfl rfl (by kernel_rfl) Try.func3 (by kernel_rfl)
    (of_decide_eq_true (by kernel_rfl)) (by unfold Func.isWrapper; first | (rw [if_pos (by decide +kernel)]; kernel_rfl) | (rw [if_neg (by decide +kernel)]; exact ⟨rfl, rfl⟩))
    (fun os started H enc _ => crcSums_lifted os started H enc)

theorem crcSums_proved : Rows.CrcSumsSaid := crcSums_over

end Go.Proofs.Ytekdfoncehbohaa
