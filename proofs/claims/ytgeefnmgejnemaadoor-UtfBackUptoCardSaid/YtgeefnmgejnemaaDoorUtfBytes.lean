import Derived.Test.YtgeefnmgejnemaaDoorUtfRunes
import Derived.Laws.IdiomStrings
namespace Go.Proofs.YtgeefnmgejnemaaDoor
open Go.RowKit Go.Shelf Utf
open Go.Lib (encodeRune)
set_option linter.unusedSimpArgs false
set_option linter.unusedVariables false
/-- 'string([]byte{..})', the bytes laid in a block of their own. -/
theorem conv_lit (w : World) (l : List UInt8) (n cap : Nat) (hl : l.length = n) (cs : Array Value) (hcs : cs = (Lib.byteCells l).toArray) :
    (convert 53 9 (.slice (some ⟨w.heap.size, 0, none⟩) n cap)).run Tryd.prog (w.alloc (.cells cs 5)) = .ok (.string (bs l)) (w.alloc (.cells cs 5)) := by
  subst hl hcs
  refine run_convert_bytes_back _ 53 9 5 ⟨w.heap.size, 0, none⟩ cap l Tryd.underlying53 Tryd.underlying5 Tryd.underlying9 (fun j hj => ?_)
  have e : (⟨w.heap.size, 0, none⟩ : Addr).add j = ⟨w.heap.size, j, none⟩ := by simp only [Addr.add]; split <;> simp_all
  rw [e, World.cell?_alloc_mark]
  simp [Lib.byteCells, hj]
set_option maxRecDepth 100000 in
set_option maxHeartbeats 2000000 in
theorem bytes_1 (r : Nat) (w : World) (h : r < 128) :
    Calls Tryd.prog 20 #[.int .i64 (r : Int)] w fun e w' => e = .returned (.string (bs [UInt8.ofNat r])) ∧ Below w.heap.size w w' := by
  have h1 : (r : Int) < 128 := by omega
  have hcv := conv_lit w [UInt8.ofNat r] 1 1 rfl #[.int .u8 (r : Int)] (by simp [Lib.byteCells, UInt8.toNat_ofNat']; omega)
  have hB : Below w.heap.size w (w.alloc (.cells #[.int .u8 (r : Int)] 5)) := (Below.refl _ w).alloc (Nat.le_refl _) _
  go_enter Tryd.func20, Tryd.ntmps20
  go_wp2
  go_ret
  exact ⟨rfl, hB⟩
set_option maxRecDepth 100000 in
set_option maxHeartbeats 2000000 in
theorem bytes_2 (r : Nat) (w : World) (h : 128 ≤ r ∧ r < 2048) :
    Calls Tryd.prog 20 #[.int .i64 (r : Int)] w fun e w' => e = .returned (.string (bs (encodeRune (r : Int)))) ∧ Below w.heap.size w w' := by
  have h1 : ¬ (r : Int) < 128 := by omega
  have h2 : (r : Int) < 2048 := by omega
  have hz := Lib.encodeRuneZ_two (r := (r : Int)) (by omega) (by omega)
  have hcv := conv_lit w (encodeRune (r : Int)) 2 2 (by rw [← Lib.runeCells_length, Lib.runeCells, hz]; rfl) #[.int .u8 (192 + (r : Int) / 64), .int .u8 (128 + (r : Int) % 64)] (by rw [Lib.byteCells_encodeRune, Lib.runeCells, hz]; rfl)
  have hB : Below w.heap.size w (w.alloc (.cells #[.int .u8 (192 + (r : Int) / 64), .int .u8 (128 + (r : Int) % 64)] 5)) := (Below.refl _ w).alloc (Nat.le_refl _) _
  obtain ⟨y, hy⟩ : ∃ y, bs (encodeRune (r : Int)) = y := ⟨_, rfl⟩
  rw [hy] at hcv ⊢
  clear hz hy
  go_enter Tryd.func20, Tryd.ntmps20
  go_wp2
  go_ret
  exact ⟨rfl, hB⟩
set_option maxRecDepth 100000 in
set_option maxHeartbeats 2000000 in
theorem bytes_3 (r : Nat) (w : World) (h : 2048 ≤ r ∧ r < 65536 ∧ (r < 55296 ∨ 57343 < r)) :
    Calls Tryd.prog 20 #[.int .i64 (r : Int)] w fun e w' => e = .returned (.string (bs (encodeRune (r : Int)))) ∧ Below w.heap.size w w' := by
  have h1 : ¬ (r : Int) < 128 := by omega
  have h2 : ¬ (r : Int) < 2048 := by omega
  have h3 : (r : Int) < 65536 := by omega
  have hz := Lib.encodeRuneZ_three (r := (r : Int)) (by omega)
  have hcv := conv_lit w (encodeRune (r : Int)) 3 3 (by rw [← Lib.runeCells_length, Lib.runeCells, hz]; rfl) #[.int .u8 (224 + (r : Int) / 4096), .int .u8 (128 + (r : Int) / 64 % 64), .int .u8 (128 + (r : Int) % 64)] (by rw [Lib.byteCells_encodeRune, Lib.runeCells, hz]; rfl)
  have hB : Below w.heap.size w (w.alloc (.cells #[.int .u8 (224 + (r : Int) / 4096), .int .u8 (128 + (r : Int) / 64 % 64), .int .u8 (128 + (r : Int) % 64)] 5)) := (Below.refl _ w).alloc (Nat.le_refl _) _
  obtain ⟨y, hy⟩ : ∃ y, bs (encodeRune (r : Int)) = y := ⟨_, rfl⟩
  rw [hy] at hcv ⊢
  clear hz hy
  go_enter Tryd.func20, Tryd.ntmps20
  go_wp2
  go_ret
  exact ⟨rfl, hB⟩
set_option maxRecDepth 100000 in
set_option maxHeartbeats 2000000 in
theorem bytes_4 (r : Nat) (w : World) (h : 65536 ≤ r ∧ r < 1114112) :
    Calls Tryd.prog 20 #[.int .i64 (r : Int)] w fun e w' => e = .returned (.string (bs (encodeRune (r : Int)))) ∧ Below w.heap.size w w' := by
  have h1 : ¬ (r : Int) < 128 := by omega
  have h2 : ¬ (r : Int) < 2048 := by omega
  have h3 : ¬ (r : Int) < 65536 := by omega
  have h4 : (r : Int) < 1114112 := by omega
  have hz := Lib.encodeRuneZ_four (r := (r : Int)) (by omega) (by omega)
  have hcv := conv_lit w (encodeRune (r : Int)) 4 4 (by rw [← Lib.runeCells_length, Lib.runeCells, hz]; rfl) #[.int .u8 (240 + (r : Int) / 262144), .int .u8 (128 + (r : Int) / 4096 % 64), .int .u8 (128 + (r : Int) / 64 % 64), .int .u8 (128 + (r : Int) % 64)] (by rw [Lib.byteCells_encodeRune, Lib.runeCells, hz]; rfl)
  have hB : Below w.heap.size w (w.alloc (.cells #[.int .u8 (240 + (r : Int) / 262144), .int .u8 (128 + (r : Int) / 4096 % 64), .int .u8 (128 + (r : Int) / 64 % 64), .int .u8 (128 + (r : Int) % 64)] 5)) := (Below.refl _ w).alloc (Nat.le_refl _) _
  obtain ⟨y, hy⟩ : ∃ y, bs (encodeRune (r : Int)) = y := ⟨_, rfl⟩
  rw [hy] at hcv ⊢
  clear hz hy
  go_enter Tryd.func20, Tryd.ntmps20
  go_wp2
  go_ret
  exact ⟨rfl, hB⟩
/-- A rune's bytes: of every rune but halves of pairs. -/
theorem refBytes_any (r : Nat) (w : World) (h : r ≤ 1114111) (hh : r < 55296 ∨ 57343 < r) :
    Calls Tryd.prog 20 #[.int .i64 (r : Int)] w fun e w' => e = .returned (.string (bs (encodeRune (r : Int)))) ∧ Below w.heap.size w w' := by
  by_cases h1 : r < 128
  · have e : encodeRune (r : Int) = [UInt8.ofNat r] := by
      unfold encodeRune
      rw [Lib.encodeRuneZ_one (by omega) (by omega)]
      rfl
    rw [e]; exact bytes_1 r w h1
  by_cases h2 : r < 2048
  · exact bytes_2 r w (by omega)
  by_cases h3 : r < 65536
  · exact bytes_3 r w (by omega)
  · exact bytes_4 r w (by omega)
end Go.Proofs.YtgeefnmgejnemaaDoor
