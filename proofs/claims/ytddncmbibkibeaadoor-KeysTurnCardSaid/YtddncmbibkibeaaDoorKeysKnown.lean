import Derived.Test.YtddncmbibkibeaaDoorKeysTurn
namespace Go.Proofs.YtddncmbibkibeaaDoor
open Go.RowKit Utf Keys
open Go.Lib (validD hasPrefix)

theorem strBool_mk (p : List UInt8 × Bool) (a : List UInt8) (b : Bool) (h : p = (a, b)) : strBool p = .tuple #[.string ⟨a.toArray⟩, .bool b] := by rw [h]; rfl
theorem strNum_mk (p : List UInt8 × Nat) (a : List UInt8) (b : Nat) (h : p = (a, b)) : strNum p = .tuple #[.string ⟨a.toArray⟩, .int .i64 b] := by rw [h]; rfl
theorem may_bx : turn [97, 47, 120] [97, 47] [98, 47] = ([98, 47, 120], 0) := by decide +kernel
theorem may_c : turn [99] [97, 47] [98, 47] = ([], 12) := by decide +kernel
theorem end_ab : endL [97, 98] = ([97, 99], true) := by decide +kernel
theorem end_aff : endL [97, 255] = ([98], true) := by decide +kernel
theorem end_0 : endL [] = ([], false) := rfl

set_option maxHeartbeats 1000000 in
theorem keysKnown_any (w : World) (hT : Tabs w) : Calls Tryd.prog 12 #[] w fun e w' => e = .returned (.bool true) ∧ Below w.heap.size w w' := by
  have c1 : ∀ W, Calls Tryd.prog 13 #[.string ⟨#[97, 98]⟩] W fun e w' => e = .returned (.tuple #[.string ⟨#[97, 99]⟩, .bool true]) ∧ Below W.heap.size W w' := fun W => by
    have := end_any [97, 98] W (by simp)
    rw [strBool_mk _ _ _ end_ab] at this
    exact this
  have c2 : ∀ W, Calls Tryd.prog 13 #[.string ⟨#[97, 255]⟩] W fun e w' => e = .returned (.tuple #[.string ⟨#[98]⟩, .bool true]) ∧ Below W.heap.size W w' := fun W => by
    have := end_any [97, 255] W (by simp)
    rw [strBool_mk _ _ _ end_aff] at this
    exact this
  have c3 : ∀ W, Calls Tryd.prog 13 #[.string ⟨#[]⟩] W fun e w' => e = .returned (.tuple #[.string ⟨#[]⟩, .bool false]) ∧ Below W.heap.size W w' := fun W => by
    have := end_any [] W (by simp)
    rw [strBool_mk _ _ _ end_0] at this
    exact this
  have c4 : ∀ W, Tabs W → Calls Tryd.prog 18 #[.string ⟨#[97, 47, 120]⟩, .string ⟨#[97, 47]⟩, .string ⟨#[98, 47]⟩] W fun e w' => e = .returned (.tuple #[.string ⟨#[98, 47, 120]⟩, .int .i64 0]) ∧ Below W.heap.size W w' := fun W hW => by
    have := turn_any [97, 47, 120] [97, 47] [98, 47] W (by simp) (by simp) (by simp) hW
    rw [strNum_mk _ _ _ may_bx] at this
    exact this
  have c5 : ∀ W, Tabs W → Calls Tryd.prog 18 #[.string ⟨#[99]⟩, .string ⟨#[97, 47]⟩, .string ⟨#[98, 47]⟩] W fun e w' => e = .returned (.tuple #[.string ⟨#[]⟩, .int .i64 12]) ∧ Below W.heap.size W w' := fun W hW => by
    have := turn_any [99] [97, 47] [98, 47] W (by simp) (by simp) (by simp) hW
    rw [strNum_mk _ _ _ may_c] at this
    exact this
  have C1 := Lib.hid c1
  have C2 := Lib.hid c2
  have C3 := Lib.hid c3
  have C4 := Lib.hid c4
  have C5 := Lib.hid c5
  clear c1 c2 c3 c4 c5
  go_enter Tryd.func12, Tryd.ntmps12
  go_wp2_with fail
  ((with_reducible refine (C1.out _).mono ?_); rintro e w1 ⟨rfl, b1⟩)
  go_wp2_with fail
  ((with_reducible refine (C2.out _).mono ?_); rintro e w2 ⟨rfl, b2⟩)
  have k2 := bthen b1 b2
  go_wp2_with fail
  ((with_reducible refine (C3.out _).mono ?_); rintro e w3 ⟨rfl, b3⟩)
  have k3 := bthen k2 b3
  go_wp2_with fail
  ((with_reducible refine (C4.out _ (tabs_below hT k3)).mono ?_); rintro e w4 ⟨rfl, b4⟩)
  have k4 := bthen k3 b4
  go_wp2_with fail
  ((with_reducible refine (C5.out _ (tabs_below hT k4)).mono ?_); rintro e w5 ⟨rfl, b5⟩)
  have k5 := bthen k4 b5
  go_wp2
  go_ret
  exact ⟨rfl, k5⟩
end Go.Proofs.YtddncmbibkibeaaDoor
