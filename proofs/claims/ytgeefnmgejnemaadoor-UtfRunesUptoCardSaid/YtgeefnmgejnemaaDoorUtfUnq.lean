import Derived.Test.YtgeefnmgejnemaaDoorUtfUnqMem
namespace Go.Proofs.YtgeefnmgejnemaaDoor
open Go.RowKit Go.Shelf Utf
open Go.Lib (encodeRune byteCells byteCells_append byteCells_encodeRune byteCells_length)
set_option linter.unusedSimpArgs false
set_option linter.unusedVariables false
/-- What the reader answers. -/
def Unq (w : World) (p : List UInt8 × Int × Nat) (e : Ending) (w' : World) : Prop := e = .returned (.tuple #[.string (bs p.1), .int .i64 p.2.1, .int .i64 (p.2.2 : Int)]) ∧ Below w.heap.size w w'
set_option maxRecDepth 100000 in
set_option maxHeartbeats 4000000 in
theorem unq_neg (s : ByteArray) (a : Int) (w : World) (h : a < 0) :
    Calls Tryd.prog 17 #[.string s, .int .i64 a] w (Unq w ([], 0, 17)) := by
  go_enter Tryd.func17, Tryd.ntmps17
  go_wp2
  go_step3
  go_wp2
  go_ret3
  exact ⟨rfl, Below.refl _ _⟩
set_option maxRecDepth 100000 in
set_option maxHeartbeats 4000000 in
theorem unq_far (s : ByteArray) (a : Int) (w : World) (h0 : ¬ a < 0) (h : (s.size : Int) < a) :
    Calls Tryd.prog 17 #[.string s, .int .i64 a] w (Unq w ([], 0, 17)) := by
  go_enter Tryd.func17, Tryd.ntmps17
  go_wp2
  go_step3
  go_wp2
  go_ret3
  exact ⟨rfl, Below.refl _ _⟩
set_option maxRecDepth 100000 in
set_option maxHeartbeats 4000000 in
theorem unq_end (s : ByteArray) (a : Int) (w : World) (h0 : ¬ a < 0) (h : ¬ (s.size : Int) < a) (h2 : (a == (s.size : Int)) = true) :
    Calls Tryd.prog 17 #[.string s, .int .i64 a] w (Unq w ([], a, 4)) := by
  go_enter Tryd.func17, Tryd.ntmps17
  go_wp2
  go_step3
  go_wp2
  go_ret3
  exact ⟨rfl, Below.refl _ _⟩
set_option maxRecDepth 100000 in
set_option maxHeartbeats 4000000 in
theorem unq_no (s : ByteArray) (a : Nat) (w : World) (hs : s.size ≤ 140737488351232) (k0 : a < s.size) (c : Int) (hc : ((s[a]'k0).toNat : Int) = c) (h3 : (c == 34) = false) :
    Calls Tryd.prog 17 #[.string s, .int .i64 (a : Int)] w (Unq w ([], (a : Int), 4)) := by
  have h1 : ¬ (a : Int) < 0 := by omega
  have h2 : ¬ (s.size : Int) < (a : Int) := by omega
  have h4 : ((a : Int) == (s.size : Int)) = false := by rw [beq_eq_false_iff_ne]; omega
  go_enter Tryd.func17, Tryd.ntmps17
  go_wp2
  go_step3
  go_wp2
  go_ret3
  exact ⟨rfl, Below.refl _ _⟩
end Go.Proofs.YtgeefnmgejnemaaDoor
