/- NetOwn answers true at every input, and every argument reads afterwards as it did: 'netOwn_proved'. Conditions: none but the statement's own. -/
import Derived.Test.YtponmokiogdejaaTurned
import Derived.Test.YtponmokiogdejaaNetTells
namespace Go.Proofs.Ytponmokiogdejaa
open Go.RowKit Crc
set_option linter.unusedSimpArgs false
set_option linter.unusedVariables false

theorem Turned.drewOne {a W : World} {g n : Nat} (h : Turned a W g n) (hn : 0 < n) : Turned a W.drew g n := ⟨⟨h.1.os, h.1.tape, h.1.output, h.1.size, h.1.block⟩, fun e => absurd e (by omega)⟩
set_option maxHeartbeats 1000000 in
theorem nown_row (A : Option Addr) (c B : Nat) (l : List UInt8) (w : World) (h1 : At w B 1 A l.length (l.map u8v)) (hm : l.length ≤ 140737488355328) :
    Calls Try.prog 17 #[.slice A l.length c] w (MadeB w l) := by
  obtain ⟨i0, hi, hz0, hz1, hz2⟩ := info_parts info_u8
  go_enter Try.func17, Try.ntmps17
  go_wp2_with (at_builtin; refine wpList_append_from _ rfl _ _ 34 rfl w.heap.size 5 i0 (.int .u8 0) 1 1 Try.underlying34 hi hz0 hz1 hz2 rfl (by decide) (.slice none 0 0) 0 [] rfl (World.ownsRow_nil _ _ _ _) B A l.length c (l.map u8v) rfl h1 (one_u8 l) (by unfold maxLen; omega) (by omega) (Nat.le_refl _) ?_; intro v' w1 hown hg _)
  simp only [Nat.zero_add, List.nil_append] at hown
  have hb : Below w.heap.size w w1 := grown_below (World.ownsRow_nil w w.heap.size 5 1) hg (Nat.le_refl _)
  go_ret
  exact ⟨_, rfl, hown, hb⟩

set_option maxRecDepth 100000 in
set_option maxHeartbeats 16000000 in
theorem netOwn_walk (tw : Nat) (A : Option Addr) (c : Nat) (l : List UInt8) (w : World) (ht : tw < 18446744073709551616) (h1 : At w w.heap.size 1 A l.length (l.map u8v)) (hlc : l.length ≤ c) (hm : c ≤ 140737488351232) :
    Calls Try.prog 6 #[.int .u64 (tw : Int), .slice A l.length c] w fun e w' => e = .returned (.bool true) ∧ Below w.heap.size w w' := by
  obtain ⟨x, hx⟩ : ∃ x : Let, x = ⟨tw, l, false⟩ := ⟨_, rfl⟩
  have C0 := Lib.hid (nown_row A c w.heap.size l w h1 (by omega))
  have D1 := Lib.hid fun (w1 wa : World) (h : St w1.heap.size w1 w1.heap.size [] wa) (A1 : Option Addr) (c1 : Nat) (hA : At wa wa.heap.size 1 A1 l.length (l.map u8v)) =>
    (show Calls Try.prog 14 #[.pointer (some ⟨w1.heap.size, 0, none⟩), .int .u64 (tw : Int), .slice A1 l.length c1] wa (DidSt w1.heap.size w1 w1.heap.size [x] 0) by rw [hx]; exact send_st h (Nat.le_refl _) tw l A1 c1 (by simp) hA (by omega) ht)
  have D2 := Lib.hid fun (b g0 : Nat) (w1 W : World) (hs : b ≤ w1.heap.size) (h : St b w1 g0 [x] W) =>
    (show Calls Try.prog 18 #[.pointer (some ⟨g0, 0, none⟩), .int .i64 0] W (DidSt b w1 g0 [x, x] 0) from double_st h hs 0 (by simp) (by simp))
  have D3 := Lib.hid fun (b g0 : Nat) (w1 W : World) (hs : b ≤ w1.heap.size) (h : St b w1 g0 [x, x] W) =>
    (show Calls Try.prog 20 #[.pointer (some ⟨g0, 0, none⟩), .int .i64 0] W (AnsLet W x 0) from at_st h hs 0 (by simp) (by simp))
  have D4 := Lib.hid fun (b g0 : Nat) (w1 W : World) (h : St b w1 g0 [x, x] W) => (show Calls Try.prog 13 #[.pointer (some ⟨g0, 0, none⟩)] W (AllO W [x, x]) from all_any _ g0 [x, x] W h.choose_spec.1 (by simp))
  obtain ⟨x', hx'⟩ : ∃ x', x' = (spoilX x 0 8).1 := ⟨_, rfl⟩
  obtain ⟨q, hq⟩ : ∃ q, q = (spoilX x 0 8).2 := ⟨_, rfl⟩
  have D5 := Lib.hid fun (b g0 : Nat) (w1 W : World) (hs : b ≤ w1.heap.size) (h : St b w1 g0 [x, x] W) =>
    (show Calls Try.prog 19 #[.pointer (some ⟨g0, 0, none⟩), .int .i64 0, .int .i64 0, .int .u8 8] W (DidSt b w1 g0 [x', x] q) from by
      have h := spoil_st h hs 0 (by simp) (by simp) 0 8 (by omega) (by omega)
      rw [show [x, x][0] = x from rfl, ← hx', ← hq] at h
      exact h)
  have D6 := Lib.hid fun (b g0 : Nat) (w1 W : World) (hs : b ≤ w1.heap.size) (h : St b w1 g0 [x', x] W) =>
    (show Calls Try.prog 20 #[.pointer (some ⟨g0, 0, none⟩), .int .i64 1] W (AnsLet W x 0) from at_st h hs 1 (by simp) (by simp))
  have xl : x.fr = l ∧ x.to = tw ∧ x.sp = false := by rw [hx]; exact ⟨rfl, rfl, rfl⟩
  have HX := Lib.hid hx
  clear hx hx' hq
  have H1 := Lib.hid h1
  clear h1
  go_enter Try.func6, Try.ntmps6
  go_wp2_with fail
  ((with_reducible refine C0.out.mono ?_); rintro e w1 ⟨v1, rfl, hown1, b1⟩)
  obtain ⟨A1, c1, rfl, _, _, hat1⟩ := own_slice hown1
  obtain ⟨g1, o1, hA1, ⟨hg1, hl1⟩, hr1⟩ := (own_of_row hown1).where
  obtain ⟨wa, hwa⟩ : ∃ wa, w1.alloc (.cells #[.slice none 0 0] 27) = wa := ⟨_, rfl⟩
  have s0 : St w1.heap.size w1 w1.heap.size [] wa := by rw [← hwa]; exact st_new
  have hat2 := hat1.then s0.bel
  clear hown1 hat1
  go_wp2_with fail
  ((with_reducible refine (D1.out w1 wa s0 A1 c1 hat2).mono ?_); rintro e w2 ⟨rfl, s2⟩)
  clear D1 s0 hat2 hwa C0
  go_wp2_with fail
  ((with_reducible refine (D2.out _ _ _ _ (Nat.le_refl _) s2).mono ?_); rintro e w3 ⟨rfl, s3⟩)
  clear D2 s2
  have hr3 := hr1.below s3.bel hl1
  have HA1 := Lib.hid hA1
  have HL1 := Lib.hid hl1
  have S3 := Lib.hid s3
  have X := Lib.hid xl
  clear hr1 hA1 hl1 s3 xl
  go_wp2
  go_loopw [7] (fun i wr => ∃ j : Nat, j ≤ l.length ∧ i = .int .i64 j ∧ IntRow wr g1 o1 l.length ∧ Turned w3 wr g1 l.length) (fun i _ => l.length - (intOf i).toNat)
  case atStart => exact ⟨0, Nat.zero_le _, rfl, hr3, Turned.refl _ _ _⟩
  case round =>
    obtain ⟨j, hj, rfl, hr, hg⟩ := hrel
    clear hr3
    by_cases hlt : j < l.length
    · obtain ⟨⟨y, hy⟩, hf⟩ := hr j hlt
      obtain rfl := HA1.out (by omega)
      have HR := Lib.hid hr
      clear hr
      go_wp2
      go_roundw
      case rel => exact ⟨j + 1, by omega, by go_num, HR.out.set _, hg.set hlt _⟩
      case measure => simp [intOf]; omega
    · have s4 := S3.out.turned hg HL1.out
      have z4 : w1.heap.size ≤ wr.heap.size := Nat.le_trans S3.out.bel.size hg.1.size
      have k4 : Below w.heap.size w wr := (bthen b1 S3.out.bel).trans (hg.below (bthen b1 S3.out.bel).size (fun _ => hg1))
      obtain ⟨w4, rfl⟩ : ∃ w4 : World, w4 = wr := ⟨_, rfl⟩
      have z1 : w.heap.size ≤ w1.heap.size := b1.size
      clear hr hg S3 b1
      go_wp2_with fail
      ((with_reducible refine (D3.out _ _ _ _ z4 s4).mono ?_); rintro e w5 ⟨A5, c5, rfl, hx5, hc5, b5⟩)
      obtain ⟨v5, hv5⟩ : ∃ v5, w5.alloc (.cells #[.int .u64 (x.to : Int), .slice A5 x.fr.length c5, .bool x.sp] 47) = v5 := ⟨_, rfl⟩
      have z5 : v5.heap.size = w5.heap.size + 1 := by rw [← hv5]; simp
      have l5 : Below w5.heap.size w5 v5 := by rw [← hv5]; exact (Below.refl _ _).alloc (Nat.le_refl _) _
      have q5 := (box_let w5 x A5 c5).1
      rw [hv5, X.out.1] at q5
      obtain ⟨g5, o5, hA5, ⟨hg5, hl5⟩, hr5⟩ := hx5.where
      rw [X.out.1] at hA5 hl5 hr5
      have hr6 := hr5.below l5 hl5
      have k5 : Below w4.heap.size w4 v5 := bthen b5 l5
      have HA5 := Lib.hid hA5
      have HL5 := Lib.hid hl5
      clear hx5 hc5 b5 l5 hr5 hA5 hl5 D3
      go_upto_region 10 with fail
      rw [X.out.1]
      clear hv5
      go_wp2
      go_loopw [10] (fun i wr => ∃ j : Nat, j ≤ l.length ∧ i = .int .i64 j ∧ IntRow wr g5 o5 l.length ∧ Turned v5 wr g5 l.length) (fun i _ => l.length - (intOf i).toNat)
      case atStart => exact ⟨0, Nat.zero_le _, rfl, hr6, Turned.refl _ _ _⟩
      case round =>
        obtain ⟨j2, hj2, rfl, hr, hg⟩ := hrel
        clear hr6
        have q6 : wr.cell? ⟨w5.heap.size, 1, none⟩ = some (.slice A5 l.length c5) := (hg.cellA (by omega) (fun h => by have := HL5.out h; omega)).trans q5
        by_cases hlt2 : j2 < l.length
        · obtain ⟨⟨y, hy⟩, hf⟩ := hr j2 hlt2
          obtain rfl := HA5.out (by omega)
          have hne : w5.heap.size ≠ g5 := by have := HL5.out (by omega); omega
          have hne2 := hne.symm
          have HR := Lib.hid hr
          clear hr
          go_wp2
          go_region
          all_goals
            go_wp2
            go_roundw
            case rel => exact ⟨j2 + 1, by omega, by go_num, HR.out.set _, (hg.set hlt2 _).drewOne (by omega)⟩
            case measure => simp [intOf]; omega
        · have k6 : Below w4.heap.size w4 wr := k5.trans (hg.below k5.size (fun _ => hg5))
          have s6 := s4.then k6 z4
          have k7 := bthen k4 k6
          obtain ⟨w6, rfl⟩ : ∃ w6 : World, w6 = wr := ⟨_, rfl⟩
          clear hr hg k6
          go_wp2_with fail
          ((with_reducible refine (D4.out _ _ _ _ s6).mono ?_); rintro e w7 ⟨v7, xs, rfl, hown7, hrow7, b7⟩)
          obtain ⟨A7, c7, rfl, _, _, _⟩ := own_slice hown7
          obtain ⟨g7, ds, rfl, hg7, hl7, hr7, hf7, hLO, A8, c8, rfl, hW⟩ := own_parts hown7 hrow7 0 x rfl
          have q7 : w7.cell? ⟨g7, 1, none⟩ = some (.slice A8 x.fr.length c8) := hr7 1 _ rfl
          rw [X.out.1] at q7
          have hw : ∃ g o, (0 < l.length → A8 = some ⟨g, o, none⟩) ∧ (w6.heap.size ≤ g ∧ (0 < l.length → g < w7.heap.size ∧ g ≠ g7)) ∧ IntRow w7 g o l.length := by
            by_cases h : 0 < l.length
            · obtain ⟨g, o, e, hs, hc⟩ := hW (by rw [X.out.1]; exact h)
              exact ⟨g, o, fun _ => e, ⟨hs.1, fun _ => ⟨hs.2.1, fun e => hs.2.2 (by rw [e]; rfl)⟩⟩, fun j hj => hc j (by rw [X.out.1]; exact hj)⟩
            · exact ⟨w6.heap.size, 0, fun h' => absurd h' h, ⟨Nat.le_refl _, fun h' => absurd h' h⟩, fun j hj => absurd hj (by omega)⟩
          obtain ⟨g8, o8, hA8, ⟨hg8, hl8⟩, hr8⟩ := hw
          have HA8 := Lib.hid hA8
          have HL8 := Lib.hid hl8
          rw [show [x, x].length = 2 from rfl]
          clear hown7 hrow7 hr7 hf7 hLO hW hA8 hl8 D4 q5 HA5 HL5 HA1 HL1
          go_wp2
          go_loopw [12] (fun i wr => ∃ j : Nat, j ≤ l.length ∧ i = .int .i64 j ∧ IntRow wr g8 o8 l.length ∧ Turned w7 wr g8 l.length) (fun i _ => l.length - (intOf i).toNat)
          case atStart => exact ⟨0, Nat.zero_le _, rfl, hr8, Turned.refl _ _ _⟩
          case round =>
            obtain ⟨j3, hj3, rfl, hr, hg⟩ := hrel
            clear hr8
            have q8 : wr.cell? ⟨g7, 1, none⟩ = some (.slice A8 l.length c8) := (hg.cellA hl7 (fun h e => (HL8.out h).2 e.symm)).trans q7
            by_cases hlt3 : j3 < l.length
            · obtain ⟨⟨y, hy⟩, hf⟩ := hr j3 hlt3
              obtain rfl := HA8.out (by omega)
              have hne2 := (HL8.out (by omega)).2
              have hne := hne2.symm
              have HR := Lib.hid hr
              clear hr
              go_wp2
              go_region
              all_goals
                go_wp2
                go_roundw
                case rel => exact ⟨j3 + 1, by omega, by go_num, HR.out.set _, (hg.set hlt3 _).drewOne (by omega)⟩
                case measure => simp [intOf]; omega
            · have k8 : Below w6.heap.size w6 wr := b7.trans (hg.below b7.size (fun _ => hg8))
              have s8 := s6.then k8 z4
              have k9 := bthen k7 k8
              obtain ⟨w8, rfl⟩ : ∃ w8 : World, w8 = wr := ⟨_, rfl⟩
              have b8 := s8.bel
              clear hr hg k8 q7 b7 s6 s4 HA8 HL8
              go_wp2_with fail
              ((with_reducible refine (D5.out _ _ _ _ z4 s8).mono ?_); rintro e w9 ⟨rfl, s9⟩)
              go_wp2_with fail
              ((with_reducible refine (D6.out _ _ _ _ z4 s9).mono ?_); rintro e w10 ⟨A10, c10, rfl, hx10, hc10, b10⟩)
              have s10 := s9.then b10 z4
              have h10 := hx10.at
              have k10 : Below w1.heap.size w4 w10 := s10.bel
              clear s8 s9 hx10 hc10 b10 D5 D6 q8
              go_wp2_with fail
              obtain rfl := HX.out
              obtain ⟨v10, hv10⟩ : ∃ v10, w10.alloc (.cells #[.int .u64 (tw : Int), .slice A10 l.length c10, .bool false] 47) = v10 := ⟨_, rfl⟩
              have l10 : Below w10.heap.size w10 v10 := by rw [← hv10]; exact (Below.refl _ _).alloc (Nat.le_refl _) _
              have K10 : Below w.heap.size w v10 := (k4.trans (k10.mono z1)).trans (l10.mono (by have := k4.size; have := k10.size; omega))
              have cs := sameLetter_any ⟨tw, l, false⟩ A10 A c10 c v10 (h10.then l10) (H1.out.arg K10)
              have CS := Lib.hid cs
              have KK := Lib.hid K10
              clear cs h10 s10 k10 l10 K10
              simp only
              rw [hv10]
              ((with_reducible refine CS.out.mono ?_); rintro e w11 ⟨rfl, b11⟩)
              have k11 := bthen KK.out b11
              go_wp2_with fail
              ((with_reducible refine (nknown_any _).mono ?_); rintro e w12 ⟨rfl, b12⟩)
              go_wp2
              go_ret
              exact ⟨rfl, bthen k11 b12⟩

open Go.ChangeShapes Go.WideShapes in
open Go.ChangeMaps (open_string) in
theorem netOwn_law : LawWalk Try.prog 6 Try.f6 := by
  intro H enc W base args ds p hval hA hsz
  rw [Try.params6] at hA hval hsz
  obtain ⟨v0, vs0, d0, ds0, p0, q0, hargs, rfl, rfl, h0, r0⟩ := trodAll_cons hA
  obtain ⟨v1, vs1, d1, ds1, p1, q1, rfl, rfl, rfl, h1, r1⟩ := trodAll_cons r0
  obtain ⟨rfl, rfl, rfl⟩ := trodAll_nil r1
  obtain rfl : args = #[v0, v1] := by cases args; simp_all
  obtain ⟨n0, rfl, rfl, rfl, wn0⟩ := open_int Try.underlying33 (hval 0 _ v0 rfl rfl) h0
  obtain ⟨s0, rfl, hs0⟩ := u64_nat wn0
  obtain ⟨A1, c1, l1, rfl, hat1, hlc1, hd1⟩ := open_bytes Try.underlying34 Try.underlying5 (by kernel_rfl) (hval 1 _ v1 rfl rfl) h1
  exact netOwn_walk s0 A1 c1 l1 W hs0 hat1 hlc1 (bytes_reach hsz (j := 1) rfl rfl hlc1 hd1).2

set_option maxRecDepth 100000 in
theorem netOwn_lifted (os : Os) (started : os.Started) (H : Type) (enc : TypeId × Value → H) :
    ReturnsInHanded {} Try.checked os 6 .any (Rows.netOwnSpec.pre6 enc Try.prog Try.f6 Rows.netOwnRow.domain false) (Rows.netOwnSpec.post enc Try.prog Try.f6 false true false false) :=
  law_lifted (s := Rows.netOwnSpec) started (by kernel_rfl) Try.func6 Try.underlying4 rfl rfl
    (by rw [Try.params6]; simp only [List.mem_cons, List.not_mem_nil, or_false, forall_eq_or_imp, forall_eq]; exact ⟨⟨by kernel_rfl, of_decide_eq_true (by kernel_rfl)⟩, ⟨by kernel_rfl, of_decide_eq_true (by kernel_rfl)⟩⟩)
    (fun H ds hl => by match ds, hl with | [_, _], _ => rfl)
    (ChangeSpec.witness6 (enc := enc) (C := Try.checked) false ⟨#[], #[.int .u64 0, .slice none 0 0], []⟩ 8 (by kernel_rfl) (by kernel_rfl) (by kernel_rfl) (by kernel_rfl)) netOwn_law

theorem netOwn_over : Rows.netOwnRow.holds Try.pinned (OpenSpec.ofChange Rows.netOwnSpec) :=
  OpenClaim.holds_of_wide 6 Try.f6 rfl rfl rfl rfl rfl rfl rfl ⟨rfl, rfl, rfl, rfl, rfl⟩ rfl rfl rfl rfl rfl (by kernel_rfl) Try.func6 (by kernel_rfl)
    (of_decide_eq_true (by kernel_rfl)) (by unfold Func.isWrapper; first | (rw [if_pos (by decide +kernel)]; kernel_rfl) | (rw [if_neg (by decide +kernel)]; exact ⟨rfl, rfl⟩))
    (fun os started H enc _ => netOwn_lifted os started H enc)

theorem netOwn_proved : Rows.NetOwnSaid := netOwn_over

end Go.Proofs.Ytponmokiogdejaa
