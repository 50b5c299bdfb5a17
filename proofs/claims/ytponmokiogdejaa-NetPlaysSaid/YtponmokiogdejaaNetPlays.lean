/- NetPlays answers true at every input, and every argument reads afterwards as it did: 'netPlays_proved'. Conditions: none but the statement's own. -/
import Derived.Test.YtponmokiogdejaaNetAsks
import Derived.Test.YtponmokiogdejaaNetActs
namespace Go.Proofs.Ytponmokiogdejaa
open Go.RowKit
set_option linter.unusedSimpArgs false
set_option linter.unusedVariables false

set_option maxRecDepth 100000 in
set_option maxHeartbeats 16000000 in
theorem netPlays_walk (A : Option Addr) (c : Nat) (xs : List Value) (l : List NAct) (w : World) (h1 : At w w.heap.size 6 A l.length xs) (h2 : RowsO 6 (ActI w) xs l) :
    Calls Try.prog 3 #[.slice A l.length c] w fun e w' => e = .returned (.bool true) ∧ Below w.heap.size w w' := by
  have CK := Lib.hid fun W => nknown_any W
  by_cases hA : 100 < l.length
  · clear h1 h2
    go_enter Try.func3, Try.ntmps3
    go_wp2_with fail
    ((with_reducible refine (CK.out _).mono ?_); rintro e w1 ⟨rfl, b1⟩)
    go_wp2
    go_ret
    exact ⟨rfl, b1⟩
  have hl : l.length ≤ 100 := by omega
  clear hA
  have HR := Lib.hid fun (k : Nat) (hk : k < l.length) => act_row h1 h2 hk
  clear h1 h2
  obtain ⟨wb, hwb⟩ : ∃ wb, (w.alloc (.cells #[.slice none 0 0] 27)).alloc (.cells #[.slice none 0 0] 30) = wb := ⟨_, rfl⟩
  have s0 : NR w w.heap.size (w.heap.size + 1) [] [] wb := by rw [← hwb]; exact nr_new w
  go_enter Try.func3, Try.ntmps3
  go_wp2
  clear hwb
  go_loopw [3, 5] (fun n i wr => ∃ (j g : Nat) (L : List Let), j ≤ l.length ∧ i = .int .i64 j ∧ n = .pointer (some ⟨g, 0, none⟩) ∧ L.length ≤ j ∧ Hid (NR w g (w.heap.size + 1) L L wr)) (fun _ i _ => l.length - (intOf i).toNat)
  case atStart => exact ⟨0, w.heap.size, [], Nat.zero_le _, rfl, rfl, by simp, s0⟩
  case round =>
    obtain ⟨j, g, L, hj, rfl, rfl, hL, HO⟩ := hrel
    clear s0
    by_cases hlt : j < l.length
    · obtain ⟨b, o, B, d, rfl, hb, hc, hok, hB⟩ := HR.out j hlt
      obtain ⟨a, ha⟩ : ∃ a, a = l[j] := ⟨_, rfl⟩
      rw [← ha] at hc hok hB
      have CD := do_any w wr g (w.heap.size + 1) L a B d HO.out (by omega) hok hB
      obtain ⟨L', hL'⟩ : ∃ L', L' = a.step L := ⟨_, rfl⟩
      have hlen : L'.length ≤ j + 1 := by rw [hL']; have := step_len a L; omega
      rw [← hL'] at CD
      have hcells := Lib.hid fun (V : World) (hV : Below w.heap.size w V) => And.intro ((hV.cell (p := ⟨b, o + j * 6 + 1, none⟩) hb).trans hc.2.1) ((hV.cell (p := ⟨b, o + j * 6 + 3, none⟩) hb).trans hc.2.2.2.1)
      have bw := HO.out.bel
      have e0 := (bw.cell (p := ⟨b, o + j * 6, none⟩) hb).trans hc.1
      have e1 := (bw.cell (p := ⟨b, o + j * 6 + 1, none⟩) hb).trans hc.2.1
      have e2 := (bw.cell (p := ⟨b, o + j * 6 + 2, none⟩) hb).trans hc.2.2.1
      have e3 := (bw.cell (p := ⟨b, o + j * 6 + 3, none⟩) hb).trans hc.2.2.2.1
      have e4 := (bw.cell (p := ⟨b, o + j * 6 + 4, none⟩) hb).trans hc.2.2.2.2.1
      have e5 := (bw.cell (p := ⟨b, o + j * 6 + 5, none⟩) hb).trans hc.2.2.2.2.2
      unfold NAct.cells at CD
      obtain ⟨kd, tw, fr, ai, ni, m⟩ := a
      simp only at e0 e1 e2 e3 e4 e5 CD hcells
      have CD := Lib.hid CD
      clear hc hok hB ha hL' bw HO
      go_wp2_with fail
      ((with_reducible refine CD.out.mono ?_); rintro e w4 ⟨g', rfl, s4⟩)
      obtain ⟨e1, e3⟩ := hcells.out w4 s4.bel
      have CQ := Lib.hid fun (V : World) (hV : Below w4.heap.size w4 V) => asks_any w V g' (w.heap.size + 1) tw L' (s4.then hV) (by omega) ai
      have hcV := Lib.hid fun (V : World) (hV : Below w4.heap.size w4 V) => hcells.out V (s4.then hV).bel
      have S4 := Lib.hid s4
      clear e0 e2 e4 e5 CD s4
      go_wp2_with fail
      go_region_held3 (fun w' => w'.cell? ⟨b, o + j * 6 + 1, none⟩ = some (.int .u64 (tw : Int)) ∧ w'.cell? ⟨b, o + j * 6 + 3, none⟩ = some (.int .i64 ai)) (go_keep)
        (first
          | (go_at_call 11; (with_reducible refine (CQ.out _ (by first | exact (Below.refl _ _).drew | exact Below.refl _ _)).mono ?_); rintro e w5 ⟨rfl, b5⟩; have b5 : Below w4.heap.size w4 w5 := ⟨b5.os, b5.tape, b5.output, b5.size, b5.block⟩; obtain ⟨e1, e3⟩ := hcV.out w5 b5; have B5 := Lib.hid b5; clear b5))
      all_goals
        have HN := Lib.hid (S4.out.then B5.out)
        clear e1 e3
        go_wp2
        go_roundw
        case rel => exact ⟨j + 1, g', L', by omega, by go_num, rfl, hlen, by first | exact HN.out | exact HN.out.then (Below.refl _ _).drew⟩
        case measure => simp [intOf]; omega
    · have s7 := HO.out
      clear HO
      obtain ⟨M, S, k1, ⟨A7, c7, xs7, k2⟩, k3, k4, k5⟩ := s7
      have l2 : L.length ≤ 1000000 := by omega
      have q0 := k2.1
      have hr0 := k2.2.2.2.2.2.2.1
      have CA := Lib.hid fun W (hW : Below wr.heap.size wr W) => all_any M g L W (k1.below hW) l2
      have HRR := Lib.hid fun W (hW : Below wr.heap.size wr W) => k2.lets.then hW
      clear k1 k2 k4 k5
      go_wp2_with fail
      go_region_held3 (fun w' => w'.cell? ⟨w.heap.size + 1, 0, none⟩ = some (.slice A7 L.length c7)) (go_keep)
        (first
          | (go_at_call 13; (with_reducible refine (CA.out _ (Below.refl _ _).drew).mono ?_); rintro e w8 ⟨v8, xs8, rfl, hown8, hrow8, b8⟩; obtain ⟨A8, c8, rfl, _, _, _⟩ := own_slice hown8; have b9 : Below wr.heap.size wr w8 := ⟨b8.os, b8.tape, b8.output, b8.size, b8.block⟩; have q0 := (b9.cell (p := ⟨w.heap.size + 1, 0, none⟩) hr0).trans q0; have HL8 := Lib.hid (And.intro b9 fun W (hW : Below w8.heap.size w8 W) => refSame_any L A8 A7 c8 c7 xs8 xs7 W ((lets_all hown8 hrow8).then hW) (HRR.out W (bthen b9 hW)) l2); clear b8 b9 hown8 hrow8)
          | (go_at_call 12; (with_reducible refine (HL8.out.2 _ (by first | exact (Below.refl _ _).drew | exact Below.refl _ _)).mono ?_); rintro e w10 ⟨rfl, b10⟩; have b10 : Below w8.heap.size w8 w10 := ⟨b10.os, b10.tape, b10.output, b10.size, b10.block⟩; have b11 := Lib.hid (bthen k3 (bthen HL8.out.1 b10)); have q0 := (b10.cell (p := ⟨w.heap.size + 1, 0, none⟩) (World.block_lt_of_cell? w8 _ q0)).trans q0; clear b10)
          | (go_at_call 9; (with_reducible refine (CK.out _).mono ?_); rintro e w12 ⟨rfl, b12⟩; have b12 : Below w10.heap.size w10 w12 := ⟨b12.os, b12.tape, b12.output, b12.size, b12.block⟩; have b13 := Lib.hid (bthen b11.out b12); have q0 := (b12.cell (p := ⟨w.heap.size + 1, 0, none⟩) (World.block_lt_of_cell? w10 _ q0)).trans q0; clear b12))
      all_goals
        clear q0
        go_wp2
        go_ret
        exact ⟨rfl, Below.drewN' b13.out 0⟩

open Go.ChangeShapes Go.WideShapes in
open Go.ChangeMaps (open_string) in
theorem netPlays_law : LawWalk Try.prog 3 Try.f3 := by
  intro H enc W base args ds p hval hA hsz
  rw [Try.params3] at hA hval hsz
  obtain ⟨v0, vs0, d0, ds0, p0, q0, hargs, rfl, rfl, h0, r0⟩ := trodAll_cons hA
  obtain ⟨rfl, rfl, rfl⟩ := trodAll_nil r0
  obtain rfl : args = #[v0] := by cases args; simp_all
  obtain ⟨A0, c0, xs0, l0, rfl, hat0, hrow0⟩ := open_acts (hval 0 _ v0 rfl rfl) h0 hsz (j := 0) rfl rfl
  exact netPlays_walk A0 c0 xs0 l0 W hat0 hrow0

set_option maxRecDepth 100000 in
theorem netPlays_lifted (os : Os) (started : os.Started) (H : Type) (enc : TypeId × Value → H) :
    ReturnsInHanded {} Try.checked os 3 .any (Rows.netPlaysSpec.pre6 enc Try.prog Try.f3 Rows.netPlaysRow.domain false) (Rows.netPlaysSpec.post enc Try.prog Try.f3 false true false false) :=
  law_lifted (s := Rows.netPlaysSpec) started (by kernel_rfl) Try.func3 Try.underlying4 rfl rfl
    (by rw [Try.params3]; simp only [List.mem_cons, List.not_mem_nil, or_false, forall_eq]; exact ⟨by kernel_rfl, of_decide_eq_true (by kernel_rfl)⟩)
    (fun H ds hl => by match ds, hl with | [_], _ => rfl)
    (ChangeSpec.witness6 (enc := enc) (C := Try.checked) false ⟨#[], #[.slice none 0 0], []⟩ 8 (by kernel_rfl) (by kernel_rfl) (by kernel_rfl) (by kernel_rfl)) netPlays_law

theorem netPlays_over : Rows.netPlaysRow.holds Try.pinned (OpenSpec.ofChange Rows.netPlaysSpec) :=
  OpenClaim.holds_of_wide 3 Try.f3 rfl rfl rfl rfl rfl rfl rfl ⟨rfl, rfl, rfl, rfl, rfl⟩ rfl rfl rfl rfl rfl (by kernel_rfl) Try.func3 (by kernel_rfl)
    (of_decide_eq_true (by kernel_rfl)) (by unfold Func.isWrapper; first | (rw [if_pos (by decide +kernel)]; kernel_rfl) | (rw [if_neg (by decide +kernel)]; exact ⟨rfl, rfl⟩))
    (fun os started H enc _ => netPlays_lifted os started H enc)

theorem netPlays_proved : Rows.NetPlaysSaid := netPlays_over

end Go.Proofs.Ytponmokiogdejaa
