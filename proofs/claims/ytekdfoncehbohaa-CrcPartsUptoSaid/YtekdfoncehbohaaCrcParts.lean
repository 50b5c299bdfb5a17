/- CrcParts answers true at every input that holds at most 1048576 values and letters together, and every argument reads afterwards as it did: 'crcParts_proved'. Conditions: the bulk of the arguments, as the statement says; nothing else. -/
import Derived.Test.YtekdfoncehbohaaCrcLaws
namespace Go.Proofs.Ytekdfoncehbohaa
open Go.RowKit Crc

theorem more_append (s : Nat) (a b : List UInt8) (hs : s < 4294967296) : more s (a ++ b) = more (more s a) b := by
  unfold more
  rw [reg_append, show 4294967295 - (4294967295 - reg (4294967295 - s) a) = reg (4294967295 - s) a from by have := reg_lt a (r := 4294967295 - s) (by omega); omega]
theorem more_nil (s : Nat) (hs : s < 4294967296) : more s [] = s := by unfold more reg; simp; omega

set_option maxHeartbeats 2000000 in
theorem crcParts_walk (A0 : Option Addr) (c0 : Nat) (l0 : List UInt8) (A1 : Option Addr) (c1 : Nat) (l1 : List UInt8) (A2 : Option Addr) (c2 : Nat) (l2 : List UInt8) (w : World)
    (h0 : At w w.heap.size 1 A0 l0.length (l0.map u8v)) (hc0 : l0.length ≤ c0) (_hm0 : c0 ≤ 140737488351232)
    (h1 : At w w.heap.size 1 A1 l1.length (l1.map u8v)) (hc1 : l1.length ≤ c1) (_hm1 : c1 ≤ 140737488351232)
    (h2 : At w w.heap.size 1 A2 l2.length (l2.map u8v)) (hc2 : l2.length ≤ c2) (_hm2 : c2 ≤ 140737488351232) (hk : c0 + c1 + c2 ≤ 1048576) :
    Calls Try.prog 4 #[.slice A0 l0.length c0, .slice A1 l1.length c1, .slice A2 l2.length c2] w fun e w' => e = .returned (.bool true) ∧ Below w.heap.size w w' := by
  obtain ⟨i0, hi, hz0, hz1, hz2⟩ := info_parts info_u8
  obtain ⟨all, hall⟩ : ∃ all, all = l0 ++ l1 ++ l2 := ⟨_, rfl⟩
  have HL : Hid (all.length = l0.length + l1.length + l2.length) := by unfold Hid; rw [hall]; simp; omega
  have E1 : (((more (more (sum l0) l1) l2 : Nat) : Int) == ((sum all : Nat) : Int)) = true := by
    rw [hall, show sum (l0 ++ l1 ++ l2) = more (more (sum l0) l1) l2 from by unfold sum; rw [more_append _ _ _ (by omega), more_append _ _ _ (by omega)]]
    simp
  have E2 : (((more (sum l0) [] : Nat) : Int) == ((sum l0 : Nat) : Int)) = true := by rw [more_nil _ (sum_lt _)]; simp
  have HA := Lib.hid hall
  clear hall
  go_enter Try.func4, Try.ntmps4
  go_wp2_with fail
  refine (own_any A0 c0 w.heap.size l0 w h0 (by omega)).mono ?_
  rintro e w1 ⟨v, rfl, hown1, k1⟩
  go_wp2_with (first
    | (at_builtin; refine wpList_append_from _ rfl (.tmp 9) (.tmp 10) 22 rfl w.heap.size 5 i0 (.int .u8 0) 1 1 Try.underlying22 hi hz0 hz1 hz2 rfl (by decide) _ l0.length _ rfl hown1 w.heap.size A1 l1.length c1 (l1.map u8v) rfl (h1.below k1 (Nat.le_refl _)) (one_u8 l1) (by unfold maxLen; omega) (by omega) k1.size ?_; intro v2 w2 hown2 hg2 _; have k2 := k1.trans (grown_below hown1 hg2 k1.size))
    | (at_builtin; refine wpList_append_from _ rfl (.tmp 11) (.tmp 12) 22 rfl w.heap.size 5 i0 (.int .u8 0) 1 1 Try.underlying22 hi hz0 hz1 hz2 rfl (by decide) _ (l0.length + l1.length) _ rfl hown2 w.heap.size A2 l2.length c2 (l2.map u8v) rfl (h2.below k2 (Nat.le_refl _)) (one_u8 l2) (by unfold maxLen; omega) (by omega) k2.size ?_; intro v3 w3 hown3 hg3 _; have k3 := k2.trans (grown_below hown2 hg3 k2.size)))
  have hownA : w3.ownsRow w.heap.size 5 1 v3 all.length (all.map u8v) := by rw [HL.out, HA.out, List.map_append, List.map_append]; exact hown3
  obtain ⟨A3, c3, rfl, hc3, _, hat3⟩ := own_slice hownA
  clear hown1 hown2 hown3 hg2 hg3
  refine (own_at A0 c0 w.heap.size l0 w3 (h0.below k3 (Nat.le_refl _)) (by omega)).mono ?_
  rintro e w4 ⟨A4, c4, rfl, hat4, _, b4⟩
  have k4 := bthen k3 b4
  go_wp2_with fail
  refine (sum_any A4 c4 w4.heap.size l0 w4 hat4 (Nat.le_refl _) (by omega)).mono ?_
  rintro e w5 ⟨rfl, b5⟩
  have k5 := bthen k4 b5
  clear hat4
  go_wp2_with fail
  refine (own_at A1 c1 w.heap.size l1 w5 (h1.below k5 (Nat.le_refl _)) (by omega)).mono ?_
  rintro e w6 ⟨A6, c6, rfl, hat6, _, b6⟩
  have k6 := bthen k5 b6
  go_wp2_with fail
  refine (more_any (sum l0) A6 c6 w6.heap.size l1 w6 (sum_lt _) hat6 (Nat.le_refl _) (by omega)).mono ?_
  rintro e w7 ⟨rfl, b7⟩
  have k7 := bthen k6 b7
  clear hat6
  go_wp2_with fail
  refine (own_at A2 c2 w.heap.size l2 w7 (h2.below k7 (Nat.le_refl _)) (by omega)).mono ?_
  rintro e w8 ⟨A8, c8, rfl, hat8, _, b8⟩
  have k8 := bthen k7 b8
  go_wp2_with fail
  refine (more_any (more (sum l0) l1) A8 c8 w8.heap.size l2 w8 (more_lt _ _) hat8 (Nat.le_refl _) (by omega)).mono ?_
  rintro e w9 ⟨rfl, b9⟩
  have k9 := bthen k8 b9
  clear hat8
  have m39 : Below w3.heap.size w3 w9 := bthen (bthen (bthen (bthen (bthen b4 b5) b6) b7) b8) b9
  have cs := sum_any A3 c3 w9.heap.size all w9 (hat3.then m39) (Nat.le_refl _) (by rw [HL.out]; omega)
  have HC := Lib.hid cs
  clear cs hownA
  go_wp2_with fail
  ((with_reducible refine HC.out.mono ?_); rintro e w10 ⟨rfl, b10⟩)
  have k10 := bthen k9 b10
  clear HC hat3
  go_wp2_with fail
  refine (own_at A0 c0 w.heap.size l0 w10 (h0.below k10 (Nat.le_refl _)) (by omega)).mono ?_
  rintro e w11 ⟨A11, c11, rfl, hat11, _, b11⟩
  have k11 := bthen k10 b11
  go_wp2_with fail
  refine (sum_any A11 c11 w11.heap.size l0 w11 hat11 (Nat.le_refl _) (by omega)).mono ?_
  rintro e w12 ⟨rfl, b12⟩
  have k12 := bthen k11 b12
  clear hat11
  go_wp2_with fail
  refine (more_any (sum l0) none 0 0 [] w12 (sum_lt _) (At.nil _ _ _ _) (Nat.zero_le _) (by decide)).mono ?_
  rintro e w13 ⟨rfl, b13⟩
  have k13 := bthen k12 b13
  go_wp2_with fail
  refine (own_at A0 c0 w.heap.size l0 w13 (h0.below k13 (Nat.le_refl _)) (by omega)).mono ?_
  rintro e w14 ⟨A14, c14, rfl, hat14, _, b14⟩
  have k14 := bthen k13 b14
  go_wp2_with fail
  refine (sum_any A14 c14 w14.heap.size l0 w14 hat14 (Nat.le_refl _) (by omega)).mono ?_
  rintro e w15 ⟨rfl, b15⟩
  have k15 := bthen k14 b15
  clear hat14
  go_wp2_with fail
  refine (known_any w15).mono ?_
  rintro e w16 ⟨rfl, b16⟩
  have k16 := bthen k15 b16
  go_wp2
  go_ret
  exact ⟨rfl, k16⟩

open Go.ChangeShapes Go.WideShapes in
open Go.ChangeMaps (open_string) in
theorem crcParts_law : LawWalkUpto Try.prog 4 Try.f4 := by
  intro H enc W base args ds p hval hA hsz hbulk
  rw [Try.params4] at hA hval hsz
  obtain ⟨v0, vs0, d0, ds0, p0, q0, hargs, rfl, rfl, h0, r0⟩ := trodAll_cons hA
  obtain ⟨v1, vs1, d1, ds1, p1, q1, rfl, rfl, rfl, h1, r1⟩ := trodAll_cons r0
  obtain ⟨v2, vs2, d2, ds2, p2, q2, rfl, rfl, rfl, h2, r2⟩ := trodAll_cons r1
  obtain ⟨rfl, rfl, rfl⟩ := trodAll_nil r2
  obtain rfl : args = #[v0, v1, v2] := by cases args; simp_all
  obtain ⟨A0, c0, l0, rfl, hat0, hlc0, hd0⟩ := open_bytes Try.underlying22 Try.underlying5 (by kernel_rfl) (hval 0 _ v0 rfl rfl) h0
  obtain ⟨A1, c1, l1, rfl, hat1, hlc1, hd1⟩ := open_bytes Try.underlying22 Try.underlying5 (by kernel_rfl) (hval 1 _ v1 rfl rfl) h1
  obtain ⟨A2, c2, l2, rfl, hat2, hlc2, hd2⟩ := open_bytes Try.underlying22 Try.underlying5 (by kernel_rfl) (hval 2 _ v2 rfl rfl) h2
  exact crcParts_walk A0 c0 l0 A1 c1 l1 A2 c2 l2 W hat0 hlc0 (bytes_reach hsz (j := 0) rfl rfl hlc0 hd0).2 hat1 hlc1 (bytes_reach hsz (j := 1) rfl rfl hlc1 hd1).2 hat2 hlc2 (bytes_reach hsz (j := 2) rfl rfl hlc2 hd2).2 (by have e0 := bytes_bulk hd0; have e1 := bytes_bulk hd1; have e2 := bytes_bulk hd2; simp only [Rows.uptoBulkAll] at hbulk; omega)

set_option maxRecDepth 100000 in
theorem crcParts_lifted (os : Os) (started : os.Started) (H : Type) (enc : TypeId × Value → H) (F : Stop.Interp) :
    ReturnsInHanded {} Try.checked os 4 .any ((Rows.OpenSpec.upto Rows.crcPartsSpec).pre6 enc Try.prog Try.f4 Rows.crcPartsUptoRow.domain false) (((Rows.OpenSpec.upto Rows.crcPartsSpec).at F).post enc Try.prog Try.f4 false true false false) :=
  law_lifted_upto (s := Rows.crcPartsSpec) started (by kernel_rfl) Try.func4 Try.underlying4 rfl rfl
    (by rw [Try.params4]; simp only [List.mem_cons, List.not_mem_nil, or_false, forall_eq_or_imp, forall_eq]; exact ⟨⟨by kernel_rfl, of_decide_eq_true (by kernel_rfl)⟩, ⟨by kernel_rfl, of_decide_eq_true (by kernel_rfl)⟩, ⟨by kernel_rfl, of_decide_eq_true (by kernel_rfl)⟩⟩)
    (fun H ds hl => by match ds, hl with | [_, _, _], _ => rfl)
    (OpenSpec.witness (enc := enc) (C := Try.checked) (s := Rows.OpenSpec.upto Rows.crcPartsSpec) (k := Rows.uptoSmall) rfl false ⟨#[], #[.slice none 0 0, .slice none 0 0, .slice none 0 0], []⟩ 8 (by kernel_rfl) (by kernel_rfl) (by kernel_rfl)
      (x := ([.nil, .nil, .nil], [], [])) (by kernel_rfl) rfl (by kernel_rfl)) crcParts_law

theorem crcParts_over : Rows.crcPartsUptoRow.holds Try.pinned (Rows.OpenSpec.upto Rows.crcPartsSpec) :=
  OpenClaim.holds_of_cond 4 Try.f4 rfl rfl rfl rfl rfl rfl rfl ⟨rfl, rfl, rfl, rfl, rfl⟩ rfl rfl rfl rfl rfl (by kernel_rfl) Try.func4 (by kernel_rfl)
    (of_decide_eq_true (by kernel_rfl)) (by unfold Func.isWrapper; first | (rw [if_pos (by decide +kernel)]; kernel_rfl) | (rw [if_neg (by decide +kernel)]; exact ⟨rfl, rfl⟩))
    (fun os started H enc _ F => crcParts_lifted os started H enc F)

theorem crcParts_proved : Rows.CrcPartsUptoSaid := crcParts_over

end Go.Proofs.Ytekdfoncehbohaa
