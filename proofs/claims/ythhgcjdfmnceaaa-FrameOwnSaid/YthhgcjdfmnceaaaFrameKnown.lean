import Derived.Test.YthhgcjdfmnceaaaFrameRef
namespace Go.Proofs.Ythhgcjdfmnceaaa
open Go.RowKit Crc

theorem open_k0 : openK [] = (0, [], 11) := by decide +kernel
theorem open_k1 : openK [0, 0, 0, 0] = (0, [], 11) := by decide +kernel
theorem open_k2 : openK (seal_ [0]) = (0, [], 2) := by decide +kernel
theorem frame_k3 : frameL 1 [] = seal_ [1] := rfl
theorem open3_mk {w : World} {p : UInt8 × List UInt8 × Nat} {n : Nat} (h : p = (0, [], n)) {e : Ending} {w' : World} (ho : Open3 w p e w') : ∃ A c, e = .returned (.tuple #[.int .u8 0, .slice A 0 c, .int .i64 (n : Nat)]) ∧ Below w.heap.size w w' := by
  obtain ⟨A, c, he, _, _, hb⟩ := ho
  rw [h] at he
  exact ⟨A, c, he, hb⟩

theorem frame_own (k : UInt8) (A : Option Addr) (c B : Nat) (l : List UInt8) (w : World) (h1 : At w B 1 A l.length (l.map u8v)) (hB : B ≤ w.heap.size) (hm : l.length + 5 ≤ 140737488355328) :
    Calls Try.prog 10 #[u8v k, .slice A l.length c] w (AnsO w (frameL k l, frameE k)) := by
  by_cases hk : k = 0
  · subst hk
    exact frame_zero A c l w
  · exact frame_other k A c B l w h1 hB hm hk
theorem frame_any (k : UInt8) (A : Option Addr) (c B : Nat) (l : List UInt8) (w : World) (h1 : At w B 1 A l.length (l.map u8v)) (hB : B ≤ w.heap.size) (hm : l.length + 5 ≤ 140737488355328) :
    Calls Try.prog 10 #[u8v k, .slice A l.length c] w (Ans2 w (frameL k l, frameE k)) := by
  exact (frame_own k A c B l w h1 hB hm).mono fun _ _ h => h.ans

set_option maxHeartbeats 1000000 in
theorem fknown_any (w : World) : Calls Try.prog 14 #[] w fun e w' => e = .returned (.bool true) ∧ Below w.heap.size w w' := by
  have c1 : ∀ W, Calls Try.prog 10 #[.int .u8 1, .slice none 0 0] W fun e w' => ∃ A c, e = .returned (.tuple #[.slice A (seal_ [1]).length c, .int .i64 0]) ∧ At w' w'.heap.size 1 A (seal_ [1]).length ((seal_ [1]).map u8v) ∧ Below W.heap.size W w' := fun W =>
    (frame_any 1 none 0 0 [] W (At.nil _ _ _ _) (Nat.zero_le _) (by simp)).mono fun e w' ⟨A, c, he, hat, _, hb⟩ => ⟨A, c, he, hat, hb⟩
  have c2 : ∀ W, Calls Try.prog 15 #[.slice none 0 0] W _ := fun W => (fopen_any none 0 0 [] W (At.nil _ _ _ _) (Nat.zero_le _) (Nat.zero_le _) (by simp)).mono fun e w' h => open3_mk open_k0 h
  have c3 : ∀ W : World, Calls Try.prog 15 #[.slice (some ⟨W.heap.size, 0, none⟩) 4 4] (W.alloc (.cells #[.int .u8 0, .int .u8 0, .int .u8 0, .int .u8 0] 5)) _ := fun W =>
    (fopen_any (some ⟨W.heap.size, 0, none⟩) 4 (W.heap.size + 1) [0, 0, 0, 0] (W.alloc (.cells #[.int .u8 0, .int .u8 0, .int .u8 0, .int .u8 0] 5)) (At.new W ([0, 0, 0, 0].map u8v) 5 1 4 rfl) (by simp) (by simp) (by simp)).mono fun e w' h => open3_mk open_k1 h
  have c4 : ∀ (x : UInt8) (W : World), Calls Try.prog 24 #[.slice (some ⟨W.heap.size, 0, none⟩) 1 1] (W.alloc (.cells #[.int .u8 (x.toNat : Int)] 5)) (MadeA (W.alloc (.cells #[.int .u8 (x.toNat : Int)] 5)) (seal_ [x])) := fun x W =>
    refSeal_at (some ⟨W.heap.size, 0, none⟩) 1 (W.heap.size + 1) [x] _ (At.new W ([x].map u8v) 5 1 1 rfl) (by simp) (by simp)
  have hl1 : (seal_ [1]).length = 5 := by rw [seal_len]; rfl
  have hl0 : (seal_ [0]).length = 5 := by rw [seal_len]; rfl
  have c40 := c4 0
  have c41 := c4 1
  have z0 : (((0 : UInt8).toNat : Nat) : Int) = 0 := rfl
  have z1 : (((1 : UInt8).toNat : Nat) : Int) = 1 := rfl
  simp only [z0] at c40
  simp only [z1] at c41
  have C1 := Lib.hid c1
  have C2 := Lib.hid c2
  have C3 := Lib.hid c3
  have C40 := Lib.hid c40
  have C41 := Lib.hid c41
  have HL0 := Lib.hid hl0
  have HL1 := Lib.hid hl1
  clear c1 c2 c3 c4 c40 c41 hl0 hl1 z0 z1
  have hmk : ∀ W : World, (Instr.makeSlice 22 (.int .i64 4) (.int .i64 4)).run Try.prog W = .ok (.slice (some ⟨W.heap.size, 0, none⟩) 4 4) (W.alloc (.cells #[.int .u8 0, .int .u8 0, .int .u8 0, .int .u8 0] 5)) := fun W => by kernel_rfl
  go_enter Try.func14, Try.ntmps14
  go_wp2_with fail
  ((with_reducible refine (C1.out _).mono ?_); rintro e w1 ⟨A1, c1, rfl, hat1, b1⟩)
  go_wp2_with fail
  ((with_reducible refine (C2.out _).mono ?_); rintro e w2 ⟨A2, c2, rfl, b2⟩)
  have k2 := bthen b1 b2
  go_wp2_with fail
  ((with_reducible refine (C3.out _).mono ?_); rintro e w3 ⟨A3, c3, rfl, b3⟩)
  have k3 := bthen k2 (bthen ((Below.refl _ w2).alloc (Nat.le_refl _) _) b3)
  go_wp2_with fail
  ((with_reducible refine (C40.out _).mono ?_); rintro e w4 ⟨A4, c4, rfl, hat4, hc4, b4⟩)
  have k4 := bthen k3 (bthen ((Below.refl _ w3).alloc (Nat.le_refl _) _) b4)
  have c5 := (fopen_any A4 c4 w4.heap.size (seal_ [0]) w4 hat4 (Nat.le_refl _) hc4 (by rw [HL0.out]; omega)).mono fun e w' h => open3_mk open_k2 h
  have C5 := Lib.hid c5
  clear c5 hat4
  go_wp2_with fail
  ((with_reducible refine C5.out.mono ?_); rintro e w5 ⟨A5, c5, rfl, b5⟩)
  have k5 := bthen k4 b5
  go_wp2_with fail
  ((with_reducible refine (C41.out _).mono ?_); rintro e w6 ⟨A6, c6, rfl, hat6, hc6, b6⟩)
  have m56 := (bthen ((Below.refl _ w5).alloc (Nat.le_refl _) _) b6)
  have k6 := bthen k5 m56
  have m16 : Below w1.heap.size w1 w6 := bthen (bthen (bthen (bthen b2 (bthen ((Below.refl _ w2).alloc (Nat.le_refl _) _) b3)) (bthen ((Below.refl _ w3).alloc (Nat.le_refl _) _) b4)) b5) m56
  have c7 := same_any A1 A6 c1 c6 w6.heap.size (seal_ [1]) (seal_ [1]) w6 (hat1.then m16) hat6 (by rw [HL1.out]; omega)
  have S1 : (seal_ [1] == seal_ [1]) = true := by simp
  rw [S1] at c7
  have C7 := Lib.hid c7
  clear c7 hat6 hat1 S1
  go_wp2_with fail
  ((with_reducible refine C7.out.mono ?_); rintro e w7 ⟨rfl, d7⟩)
  have k7 := bthen k6 (d7.below _)
  go_wp2
  go_ret
  exact ⟨rfl, k7⟩
end Go.Proofs.Ythhgcjdfmnceaaa
