import Derived.Test.YtekdfoncehbohaaCrcOpen
namespace Go.Proofs.Ytekdfoncehbohaa
open Go.RowKit Crc

def digits : List UInt8 := [49, 50, 51, 52, 53, 54, 55, 56, 57]
theorem sum_digits : sum digits = 3421780262 := by decide +kernel
theorem seal_nil : seal_ [] = [0, 0, 0, 0] := by decide +kernel

set_option maxHeartbeats 1000000 in
theorem known_any (w : World) : Calls Try.prog 15 #[] w fun e w' => e = .returned (.bool true) ∧ Below w.heap.size w w' := by
  have a1 : At (w.alloc (.cells (digits.map u8v).toArray 5 (9, 10))) (w.heap.size + 1) 1 (some ⟨w.heap.size, 0, none⟩) 9 (digits.map u8v) := At.newM w (digits.map u8v) 5 _ 1 9 rfl
  have c1 := sum_any (some ⟨w.heap.size, 0, none⟩) 9 (w.heap.size + 1) digits (w.alloc (.cells (digits.map u8v).toArray 5 (9, 10))) a1 (by simp) (by decide)
  have kc := fun (w : World) (C : Array Value) (n c : Nat) => Lib.run_convert_bytes_const (P := Try.prog) w 22 5 C n c Try.underlying22 Try.underlying5
  rw [sum_digits] at c1
  have HC := Lib.hid c1
  clear c1 a1
  go_enter Try.func15, Try.ntmps15
  go_wp2_with fail
  refine HC.out.mono ?_
  rintro e w1 ⟨rfl, hb⟩
  clear HC
  have hb1 : Below w.heap.size w w1 := ((Below.refl _ w).alloc (Nat.le_refl _) _).trans (hb.mono (by simp))
  have c2 := seal_any none 0 0 [] w1 (At.nil _ _ _ _) (Nat.zero_le _) (by decide)
  go_wp2_with fail
  refine c2.mono ?_
  rintro e w2 ⟨v, rfl, hown, hb2⟩
  clear c2
  rw [seal_nil] at hown
  obtain ⟨A2, c2, rfl, _, _, hat⟩ := own_slice hown
  have hb12 := hb1.trans (hb2.mono hb1.size)
  have a3 : At (w2.alloc (.cells ([0, 0, 0, 0].map u8v).toArray 5)) (w2.heap.size + 1) 1 (some ⟨w2.heap.size, 0, none⟩) 4 ([0, 0, 0, 0].map u8v) := At.new w2 ([0, 0, 0, 0].map u8v) 5 1 4 rfl
  have c3 := same_any A2 (some ⟨w2.heap.size, 0, none⟩) c2 4 (w2.heap.size + 1) [0, 0, 0, 0] [0, 0, 0, 0] (w2.alloc (.cells ([0, 0, 0, 0].map u8v).toArray 5)) ((hat.alloc (Nat.le_refl _) _).more (Nat.le_succ _)) a3 (by decide)
  have H3 := Lib.hid c3
  clear c3 a3 hat hown
  go_wp2_with fail
  refine H3.out.mono ?_
  rintro e w3 ⟨rfl, hd⟩
  clear H3
  have hb3 := (hb12.alloc hb12.size _).trans (hd.below _)
  go_wp2
  go_ret
  exact ⟨rfl, hb3⟩
end Go.Proofs.Ytekdfoncehbohaa
