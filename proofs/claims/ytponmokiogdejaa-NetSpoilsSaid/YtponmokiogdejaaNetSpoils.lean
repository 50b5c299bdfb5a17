/- NetSpoils answers true at every input, and every argument reads afterwards as it did: 'netSpoils_proved'. Conditions: none but the statement's own. -/
import Derived.Test.YtponmokiogdejaaNetRefSame
namespace Go.Proofs.Ytponmokiogdejaa
open Go.RowKit Crc
set_option linter.unusedSimpArgs false
set_option linter.unusedVariables false

theorem spoilAt_len (L : List Let) (i a : Int) (m : UInt8) : (spoilAt L i a m).1.length = L.length := by
  unfold spoilAt
  split
  · simp
  · rfl
set_option maxRecDepth 100000 in
set_option maxHeartbeats 16000000 in
theorem netSpoils_walk (A : Option Addr) (c : Nat) (l : List UInt8) (at_ : Int) (mask : Nat) (again : Int) (w : World) (h1 : At w w.heap.size 1 A l.length (l.map u8v)) (hlc : l.length ≤ c) (hm : c ≤ 140737488351232)
    (ha1 : -9223372036854775808 ≤ at_) (ha2 : at_ ≤ 9223372036854775807) (hk : mask < 256) (hb1 : -9223372036854775808 ≤ again) (hb2 : again ≤ 9223372036854775807) :
    Calls Try.prog 7 #[.slice A l.length c, .int .i64 at_, .int .u8 (mask : Int), .int .i64 again] w fun e w' => e = .returned (.bool true) ∧ Below w.heap.size w w' := by
  obtain ⟨m, hmask⟩ : ∃ m : UInt8, mask = m.toNat := ⟨UInt8.ofNat mask, by rw [UInt8.toNat_ofNat']; omega⟩
  obtain ⟨x, hx⟩ : ∃ x : Let, x = ⟨1, l, false⟩ := ⟨_, rfl⟩
  obtain ⟨L1, q1, hp1⟩ : ∃ L1 q1, spoilAt [x] 0 at_ m = (L1, q1) := ⟨_, _, rfl⟩
  obtain ⟨L2, q2, hp2⟩ : ∃ L2 q2, spoilAt L1 0 again m = (L2, q2) := ⟨_, _, rfl⟩
  have e1 : L1.length = 1 := by have := spoilAt_len [x] 0 at_ m; rw [hp1] at this; exact this
  have e2 : L2.length = 1 := by have := spoilAt_len L1 0 again m; rw [hp2, e1] at this; exact this
  have l1 : L1.length ≤ 1000000 := by omega
  have l2 : L2.length ≤ 1000000 := by omega
  have C0 := Lib.hid fun W (hW : Below w.heap.size w W) => nown_row A c W.heap.size l W (h1.arg hW) (by omega)
  have C1 := Lib.hid fun W (h : NR w w.heap.size (w.heap.size + 1) [] [] W) A1 c1 (hA : At W W.heap.size 1 A1 l.length (l.map u8v)) =>
    (show Calls Try.prog 14 #[.pointer (some ⟨w.heap.size, 0, none⟩), .int .u64 1, .slice A1 l.length c1] W (DidNR w w.heap.size (w.heap.size + 1) [x] [] 0) by rw [hx]; exact send_nr h 1 l A1 c1 (by simp) hA (by omega) (by omega))
  have C2 := Lib.hid fun W (h : NR w w.heap.size (w.heap.size + 1) [x] [] W) =>
    (show Calls Try.prog 23 #[.pointer (some ⟨w.heap.size + 1, 0, none⟩), .int .u64 1, .slice A l.length c] W (fun e w' => e = .returned (.tuple #[]) ∧ NR w w.heap.size (w.heap.size + 1) [x] [x] w') by
      have := refSend_nr h 1 l A c (by simp) (h1.arg h.bel) (by omega) (by omega); rw [← hx] at this; exact this)
  have C3 := Lib.hid fun W (h : NR w w.heap.size (w.heap.size + 1) [x] [x] W) =>
    (show Calls Try.prog 19 #[.pointer (some ⟨w.heap.size, 0, none⟩), .int .i64 0, .int .i64 at_, .int .u8 (m.toNat : Int)] W (DidNR w w.heap.size (w.heap.size + 1) L1 [x] q1) by have := spoil_nr h 0 at_ m (by simp) ha1 ha2; rw [hp1] at this; exact this)
  have C4 := Lib.hid fun W (h : NR w w.heap.size (w.heap.size + 1) L1 [x] W) =>
    (show Calls Try.prog 19 #[.pointer (some ⟨w.heap.size, 0, none⟩), .int .i64 0, .int .i64 again, .int .u8 (m.toNat : Int)] W (DidNR w w.heap.size (w.heap.size + 1) L2 [x] q2) by have := spoil_nr h 0 again m l1 hb1 hb2; rw [hp2] at this; exact this)
  have C5 := Lib.hid fun W (h : NR w w.heap.size (w.heap.size + 1) L2 [x] W) =>
    (show Calls Try.prog 24 #[.pointer (some ⟨w.heap.size + 1, 0, none⟩), .int .i64 0, .int .i64 at_, .int .u8 (m.toNat : Int)] W (DidNR w w.heap.size (w.heap.size + 1) L2 L1 q1) by have := refSpoil_nr h 0 at_ m (by simp); rw [hp1] at this; exact this)
  have C6 := Lib.hid fun W (h : NR w w.heap.size (w.heap.size + 1) L2 L1 W) =>
    (show Calls Try.prog 24 #[.pointer (some ⟨w.heap.size + 1, 0, none⟩), .int .i64 0, .int .i64 again, .int .u8 (m.toNat : Int)] W (DidNR w w.heap.size (w.heap.size + 1) L2 L2 q2) by have := refSpoil_nr h 0 again m l1; rw [hp2] at this; exact this)
  have CK := Lib.hid fun W => nknown_any W
  have n1 : ((q1 : Int) != (q1 : Int)) = false := by simp
  have n2 : ((q2 : Int) != (q2 : Int)) = false := by simp
  subst hmask
  obtain ⟨wb, hwb⟩ : ∃ wb, (w.alloc (.cells #[.slice none 0 0] 27)).alloc (.cells #[.slice none 0 0] 30) = wb := ⟨_, rfl⟩
  have s0 : NR w w.heap.size (w.heap.size + 1) [] [] wb := by rw [← hwb]; exact nr_new w
  clear h1 hx hp1 hp2 e1 e2 ha1 ha2 hb1 hb2 hk hlc hm
  go_enter Try.func7, Try.ntmps7
  go_wp2_with fail
  ((with_reducible refine (C0.out _ s0.bel).mono ?_); rintro e w1 ⟨v1, rfl, hown1, b1⟩)
  obtain ⟨A1, c1, rfl, _, _, hat1⟩ := own_slice hown1
  have s1 := s0.then b1
  clear s0 b1 hown1 hwb C0
  go_wp2_with fail
  ((with_reducible refine (C1.out _ s1 _ _ hat1).mono ?_); rintro e w2 ⟨rfl, s2⟩)
  clear s1 C1 hat1
  go_wp2_with fail
  ((with_reducible refine (C2.out _ s2).mono ?_); rintro e w3 ⟨rfl, s3⟩)
  clear s2 C2
  go_wp2_with fail
  ((with_reducible refine (C3.out _ s3).mono ?_); rintro e w4 ⟨rfl, s4⟩)
  clear s3 C3
  go_wp2_with fail
  ((with_reducible refine (C4.out _ s4).mono ?_); rintro e w5 ⟨rfl, s5⟩)
  clear s4 C4
  go_wp2_with fail
  ((with_reducible refine (C5.out _ s5).mono ?_); rintro e w6 ⟨rfl, s6⟩)
  clear s5 C5
  go_wp2_with fail
  ((with_reducible refine (C6.out _ s6).mono ?_); rintro e w7 ⟨rfl, s7⟩)
  clear s6 C6
  go_wp2_with fail
  obtain ⟨M, S, k1, ⟨A7, c7, xs7, k2⟩, k3, k4, k5⟩ := s7
  have q0 := k2.1
  have hr0 := k2.2.2.2.2.2.2.1
  have CA := Lib.hid fun W (hW : Below w7.heap.size w7 W) => all_any M w.heap.size L2 W (k1.below hW) l2
  have HR := Lib.hid fun W (hW : Below w7.heap.size w7 W) => k2.lets.then hW
  clear k1 k2 k4 k5
  go_region_held3 (fun w' => w'.cell? ⟨w.heap.size + 1, 0, none⟩ = some (.slice A7 L2.length c7)) (go_keep)
    (first
      | (go_at_call 13; (with_reducible refine (CA.out _ (Below.refl _ _).drew).mono ?_); rintro e w8 ⟨v8, xs8, rfl, hown8, hrow8, b8⟩; obtain ⟨A8, c8, rfl, _, _, _⟩ := own_slice hown8; have b9 : Below w7.heap.size w7 w8 := ⟨b8.os, b8.tape, b8.output, b8.size, b8.block⟩; have q0 := (b9.cell (p := ⟨w.heap.size + 1, 0, none⟩) hr0).trans q0; have HL8 := Lib.hid (And.intro b9 fun W (hW : Below w8.heap.size w8 W) => refSame_any L2 A8 A7 c8 c7 xs8 xs7 W ((lets_all hown8 hrow8).then hW) (HR.out W (bthen b9 hW)) l2); clear b8 b9 hown8 hrow8)
      | (go_at_call 12; (with_reducible refine (HL8.out.2 _ (by first | exact (Below.refl _ _).drew | exact Below.refl _ _)).mono ?_); rintro e w10 ⟨rfl, b10⟩; have b10 : Below w8.heap.size w8 w10 := ⟨b10.os, b10.tape, b10.output, b10.size, b10.block⟩; have b11 := Lib.hid (bthen k3 (bthen HL8.out.1 b10)); have q0 := (b10.cell (p := ⟨w.heap.size + 1, 0, none⟩) (World.block_lt_of_cell? w8 _ q0)).trans q0; clear b10)
      | (go_at_call 9; (with_reducible refine (CK.out _).mono ?_); rintro e w12 ⟨rfl, b12⟩; have b12 : Below w10.heap.size w10 w12 := ⟨b12.os, b12.tape, b12.output, b12.size, b12.block⟩; have b13 := Lib.hid (bthen b11.out b12); have q0 := (b12.cell (p := ⟨w.heap.size + 1, 0, none⟩) (World.block_lt_of_cell? w10 _ q0)).trans q0; clear b12))
  all_goals
    clear q0
    go_wp2
    go_ret
    exact ⟨rfl, Below.drewN' b13.out 0⟩

open Go.ChangeShapes Go.WideShapes in
open Go.ChangeMaps (open_string) in
theorem netSpoils_law : LawWalk Try.prog 7 Try.f7 := by
  intro H enc W base args ds p hval hA hsz
  rw [Try.params7] at hA hval hsz
  obtain ⟨v0, vs0, d0, ds0, p0, q0, hargs, rfl, rfl, h0, r0⟩ := trodAll_cons hA
  obtain ⟨v1, vs1, d1, ds1, p1, q1, rfl, rfl, rfl, h1, r1⟩ := trodAll_cons r0
  obtain ⟨v2, vs2, d2, ds2, p2, q2, rfl, rfl, rfl, h2, r2⟩ := trodAll_cons r1
  obtain ⟨v3, vs3, d3, ds3, p3, q3, rfl, rfl, rfl, h3, r3⟩ := trodAll_cons r2
  obtain ⟨rfl, rfl, rfl⟩ := trodAll_nil r3
  obtain rfl : args = #[v0, v1, v2, v3] := by cases args; simp_all
  obtain ⟨A0, c0, l0, rfl, hat0, hlc0, hd0⟩ := open_bytes Try.underlying34 Try.underlying5 (by kernel_rfl) (hval 0 _ v0 rfl rfl) h0
  obtain ⟨n1, rfl, rfl, rfl, wn1⟩ := open_int Try.underlying3 (hval 1 _ v1 rfl rfl) h1
  obtain ⟨ha1, hb1⟩ := i64_in wn1
  obtain ⟨n2, rfl, rfl, rfl, wn2⟩ := open_int Try.underlying5 (hval 2 _ v2 rfl rfl) h2
  obtain ⟨s2, rfl, hs2⟩ := u8_nat wn2
  obtain ⟨n3, rfl, rfl, rfl, wn3⟩ := open_int Try.underlying3 (hval 3 _ v3 rfl rfl) h3
  obtain ⟨ha3, hb3⟩ := i64_in wn3
  exact netSpoils_walk A0 c0 l0 n1 s2 n3 W hat0 hlc0 (bytes_reach hsz (j := 0) rfl rfl hlc0 hd0).2 ha1 hb1 hs2 ha3 hb3

set_option maxRecDepth 100000 in
theorem netSpoils_lifted (os : Os) (started : os.Started) (H : Type) (enc : TypeId × Value → H) :
    ReturnsInHanded {} Try.checked os 7 .any (Rows.netSpoilsSpec.pre6 enc Try.prog Try.f7 Rows.netSpoilsRow.domain false) (Rows.netSpoilsSpec.post enc Try.prog Try.f7 false true false false) :=
  law_lifted (s := Rows.netSpoilsSpec) started (by kernel_rfl) Try.func7 Try.underlying4 rfl rfl
    (by rw [Try.params7]; simp only [List.mem_cons, List.not_mem_nil, or_false, forall_eq_or_imp, forall_eq]; exact ⟨⟨by kernel_rfl, of_decide_eq_true (by kernel_rfl)⟩, ⟨by kernel_rfl, of_decide_eq_true (by kernel_rfl)⟩, ⟨by kernel_rfl, of_decide_eq_true (by kernel_rfl)⟩, ⟨by kernel_rfl, of_decide_eq_true (by kernel_rfl)⟩⟩)
    (fun H ds hl => by match ds, hl with | [_, _, _, _], _ => rfl)
    (ChangeSpec.witness6 (enc := enc) (C := Try.checked) false ⟨#[], #[.slice none 0 0, .int .i64 0, .int .u8 0, .int .i64 0], []⟩ 8 (by kernel_rfl) (by kernel_rfl) (by kernel_rfl) (by kernel_rfl)) netSpoils_law

theorem netSpoils_over : Rows.netSpoilsRow.holds Try.pinned (OpenSpec.ofChange Rows.netSpoilsSpec) :=
  OpenClaim.holds_of_wide 7 Try.f7 rfl rfl rfl rfl rfl rfl rfl ⟨rfl, rfl, rfl, rfl, rfl⟩ rfl rfl rfl rfl rfl (by kernel_rfl) Try.func7 (by kernel_rfl)
    (of_decide_eq_true (by kernel_rfl)) (by unfold Func.isWrapper; first | (rw [if_pos (by decide +kernel)]; kernel_rfl) | (rw [if_neg (by decide +kernel)]; exact ⟨rfl, rfl⟩))
    (fun os started H enc _ => netSpoils_lifted os started H enc)

theorem netSpoils_proved : Rows.NetSpoilsSaid := netSpoils_over

end Go.Proofs.Ytponmokiogdejaa
