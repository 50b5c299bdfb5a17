/- NetNil answers true at every input, and every argument reads afterwards as it did: 'netNil_proved'. Conditions: none but the statement's own. -/
import Derived.Test.YtponmokiogdejaaNetNil
import Derived.Test.YtponmokiogdejaaLaw
namespace Go.Proofs.Ytponmokiogdejaa
open Go.RowKit
set_option linter.unusedSimpArgs false
set_option linter.unusedVariables false

set_option maxRecDepth 100000 in
set_option maxHeartbeats 8000000 in
theorem netNil_walk (i : Int) (tw : Nat) (w : World) (ha : -9223372036854775808 ≤ i) (hb : i ≤ 9223372036854775807) (ht : tw < 18446744073709551616) :
    Calls Try.prog 8 #[.int .i64 i, .int .u64 (tw : Int)] w fun e w' => e = .returned (.bool true) ∧ Below w.heap.size w w' := by
  obtain ⟨wa, hwa⟩ : ∃ wa, w.alloc (.cells #[.slice none 0 0] 27) = wa := ⟨_, rfl⟩
  have ba : Below w.heap.size w wa := by rw [← hwa]; exact (Below.refl _ w).alloc (Nat.le_refl _) _
  have za : w.heap.size < wa.heap.size := by rw [← hwa]; simp
  have c0 : wa.cell? ⟨w.heap.size, 0, none⟩ = some (.slice none 0 0) := by
    rw [← hwa, cell_of_row _ _ 0 _ _ (0, 0) (heap_alloc_new w _)]; rfl
  have Z : ∀ W, Below wa.heap.size wa W → W.cell? ⟨w.heap.size, 0, none⟩ = some (.slice none 0 0) := fun W hW => (hW.cell (p := ⟨w.heap.size, 0, none⟩) za).trans c0
  have hi : i < 0 ∨ ((0 : Nat) : Int) ≤ i := by omega
  have C1 := Lib.hid fun W => atNil_any i W
  have C2 := Lib.hid fun W => take_bad none i 1 (.inl rfl) W fun W' _ => atNil_any i W'
  have C3 := Lib.hid fun W (hW : Below wa.heap.size wa W) => atOut_any i W (Z W hW) hi
  have C4 := Lib.hid fun W (hW : Below wa.heap.size wa W) => take_bad (some ⟨w.heap.size, 0, none⟩) i 17 (.inr rfl) W fun W' hW' => atOut_any i W' (Z W' (bthen hW hW')) hi
  have C5 := Lib.hid fun W => sendNil_any tw W
  have C6 := Lib.hid fun W => dropNil_any i W
  have C7 := Lib.hid fun W => doubleNil_any i W
  have C8 := Lib.hid fun W => spoilNil_any i i 0 W
  have C9 := Lib.hid fun W => lenNil_any W
  have C10 := Lib.hid fun W => allNone_any none W fun W' _ => lenNil_any W'
  have C11 := Lib.hid fun W => countNone_any none tw W fun W' _ => lenNil_any W'
  have C12 := Lib.hid fun W => copyNil_any W
  have C13 := Lib.hid fun W (hW : Below wa.heap.size wa W) => lenAt_any W (Z W hW)
  have C14 := Lib.hid fun W (hW : Below wa.heap.size wa W) => allNone_any (some ⟨w.heap.size, 0, none⟩) W fun W' hW' => lenAt_any W' (Z W' (bthen hW hW'))
  have C15 := Lib.hid fun W (hW : Below wa.heap.size wa W) => countNone_any (some ⟨w.heap.size, 0, none⟩) tw W fun W' hW' => lenAt_any W' (Z W' (bthen hW hW'))
  have C16 := Lib.hid fun W (hW : Below wa.heap.size wa W) => spoilOut_any i i 0 W (Z W hW) hi
  have C17 := Lib.hid fun W => nknown_any W
  have AL : ∀ W : World, Below W.heap.size W (W.alloc (.cells #[.int .u64 0, .slice none 0 0, .bool false] 47)) := fun W => (Below.refl _ W).alloc (Nat.le_refl _) _
  have HB := Lib.hid ba
  clear Z c0 hi ba ha hb ht
  go_enter Try.func8, Try.ntmps8
  go_upto_region 3 with fail
  clear hwa
  go_wp2_with fail
  ((with_reducible refine (C1.out _).mono ?_); rintro e w1 ⟨rfl, b1⟩)
  clear C1
  go_wp2_with fail
  ((with_reducible refine (C2.out _).mono ?_); rintro e w2 ⟨rfl, b2⟩)
  clear C2
  go_wp2_with fail
  have k2 := bthen b1 (bthen (AL w1) b2)
  have k2a := bthen k2 (AL w2)
  ((with_reducible refine (C3.out _ k2a).mono ?_); rintro e w3 ⟨rfl, b3⟩)
  clear C3
  go_wp2_with fail
  have k3 := bthen k2a b3
  have k3a := bthen k3 (AL w3)
  ((with_reducible refine (C4.out _ k3a).mono ?_); rintro e w4 ⟨rfl, b4⟩)
  clear C4
  go_wp2_with fail
  have k4 := bthen k3a b4
  have k4a := bthen k4 (AL w4)
  clear b1 b2 b3 b4 k2 k2a k3 k3a k4
  ((with_reducible refine (C5.out _).mono ?_); rintro e w5 ⟨rfl, b5⟩)
  have k5 := bthen k4a b5
  clear C5 b5 k4a
  go_wp2_with fail
  ((with_reducible refine (C6.out _).mono ?_); rintro e w6 ⟨rfl, b6⟩)
  have k6 := bthen k5 b6
  clear C6 b6 k5
  go_wp2_with fail
  ((with_reducible refine (C7.out _).mono ?_); rintro e w7 ⟨rfl, b7⟩)
  have k7 := bthen k6 b7
  clear C7 b7 k6
  go_wp2_with fail
  ((with_reducible refine (C8.out _).mono ?_); rintro e w8 ⟨rfl, b8⟩)
  have k8 := bthen k7 b8
  clear C8 b8 k7
  go_wp2_with fail
  ((with_reducible refine (C9.out _).mono ?_); rintro e w9 ⟨rfl, b9⟩)
  have k9 := bthen k8 b9
  clear C9 b9 k8
  go_wp2_with fail
  ((with_reducible refine (C10.out _).mono ?_); rintro e w10 ⟨rfl, b10⟩)
  have k10 := bthen k9 b10
  clear C10 b10 k9
  go_wp2_with fail
  ((with_reducible refine (C11.out _).mono ?_); rintro e w11 ⟨rfl, b11⟩)
  have k11 := bthen k10 b11
  clear C11 b11 k10
  go_wp2_with fail
  ((with_reducible refine (C12.out _).mono ?_); rintro e w12 ⟨rfl, b12⟩)
  have k12 := bthen k11 b12
  clear C12 b12 k11
  go_wp2_with fail
  ((with_reducible refine (C13.out _ k12).mono ?_); rintro e w13 ⟨rfl, b13⟩)
  have k13 := bthen k12 b13
  clear C13 b13 k12
  go_wp2_with fail
  ((with_reducible refine (C14.out _ k13).mono ?_); rintro e w14 ⟨rfl, b14⟩)
  have k14 := bthen k13 b14
  clear C14 b14 k13
  go_wp2_with fail
  ((with_reducible refine (C15.out _ k14).mono ?_); rintro e w15 ⟨rfl, b15⟩)
  have k15 := bthen k14 b15
  clear C15 b15 k14
  go_wp2_with fail
  ((with_reducible refine (C16.out _ k15).mono ?_); rintro e w16 ⟨rfl, b16⟩)
  have k16 := bthen k15 b16
  clear C16 b16 k15
  go_wp2_with fail
  ((with_reducible refine (C17.out _).mono ?_); rintro e w17 ⟨rfl, b17⟩)
  have k17 := bthen k16 b17
  clear C17 b17 k16
  go_wp2
  go_ret
  exact ⟨rfl, HB.out.trans (k17.mono (by omega))⟩

open Go.ChangeShapes Go.WideShapes in
open Go.ChangeMaps (open_string) in
theorem netNil_law : LawWalk Try.prog 8 Try.f8 := by
  intro H enc W base args ds p hval hA hsz
  rw [Try.params8] at hA hval hsz
  obtain ⟨v0, vs0, d0, ds0, p0, q0, hargs, rfl, rfl, h0, r0⟩ := trodAll_cons hA
  obtain ⟨v1, vs1, d1, ds1, p1, q1, rfl, rfl, rfl, h1, r1⟩ := trodAll_cons r0
  obtain ⟨rfl, rfl, rfl⟩ := trodAll_nil r1
  obtain rfl : args = #[v0, v1] := by cases args; simp_all
  obtain ⟨n0, rfl, rfl, rfl, wn0⟩ := open_int Try.underlying3 (hval 0 _ v0 rfl rfl) h0
  obtain ⟨ha0, hb0⟩ := i64_in wn0
  obtain ⟨n1, rfl, rfl, rfl, wn1⟩ := open_int Try.underlying33 (hval 1 _ v1 rfl rfl) h1
  obtain ⟨s1, rfl, hs1⟩ := u64_nat wn1
  exact netNil_walk n0 s1 W ha0 hb0 hs1

set_option maxRecDepth 100000 in
theorem netNil_lifted (os : Os) (started : os.Started) (H : Type) (enc : TypeId × Value → H) :
    ReturnsInHanded {} Try.checked os 8 .any (Rows.netNilSpec.pre6 enc Try.prog Try.f8 Rows.netNilRow.domain false) (Rows.netNilSpec.post enc Try.prog Try.f8 false true false false) :=
  law_lifted (s := Rows.netNilSpec) started (by kernel_rfl) Try.func8 Try.underlying4 rfl rfl
    (by rw [Try.params8]; simp only [List.mem_cons, List.not_mem_nil, or_false, forall_eq_or_imp, forall_eq]; exact ⟨⟨by kernel_rfl, of_decide_eq_true (by kernel_rfl)⟩, ⟨by kernel_rfl, of_decide_eq_true (by kernel_rfl)⟩⟩)
    (fun H ds hl => by match ds, hl with | [_, _], _ => rfl)
    (ChangeSpec.witness6 (enc := enc) (C := Try.checked) false ⟨#[], #[.int .i64 0, .int .u64 0], []⟩ 8 (by kernel_rfl) (by kernel_rfl) (by kernel_rfl) (by kernel_rfl)) netNil_law

theorem netNil_over : Rows.netNilRow.holds Try.pinned (OpenSpec.ofChange Rows.netNilSpec) :=
  OpenClaim.holds_of_wide 8 Try.f8 rfl rfl rfl rfl rfl rfl rfl ⟨rfl, rfl, rfl, rfl, rfl⟩ rfl rfl rfl rfl rfl (by kernel_rfl) Try.func8 (by kernel_rfl)
    (of_decide_eq_true (by kernel_rfl)) (by unfold Func.isWrapper; first | (rw [if_pos (by decide +kernel)]; kernel_rfl) | (rw [if_neg (by decide +kernel)]; exact ⟨rfl, rfl⟩))
    (fun os started H enc _ => netNil_lifted os started H enc)

theorem netNil_proved : Rows.NetNilSaid := netNil_over

end Go.Proofs.Ytponmokiogdejaa
