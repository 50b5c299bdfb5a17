/- Frames, as plain lists: nothing of the program is read here. -/
import Derived.Test.YtponmokiogdejaaCrcHelp
namespace Go.Proofs.Ytponmokiogdejaa
open Crc

def frameL (k : UInt8) (l : List UInt8) : List UInt8 := if k = 0 then [] else seal_ (k :: l)
def frameE (k : UInt8) : Nat := if k = 0 then 2 else 0
/-- Kind, body, error. -/
def openK (l : List UInt8) : UInt8 × List UInt8 × Nat :=
  match opened l with
  | [] => (0, [], 11)
  | k :: b => if k = 0 then (0, [], 2) else (k, b, 0)
/-- The body of a frame of that kind. -/
def bodyK (k : UInt8) (l : List UInt8) : List UInt8 × Nat :=
  if (openK l).2.2 ≠ 0 then ([], (openK l).2.2) else if (openK l).1 ≠ k then ([], 13) else ((openK l).2.1, 0)
/-- Bytes, one of them changed. -/
def spoilL (l : List UInt8) (at_ : Int) (m : UInt8) : List UInt8 × Nat :=
  if at_ < 0 ∨ (l.length : Int) ≤ at_ then ([], 17) else if m = 0 then ([], 2) else (l.set at_.toNat (l.getD at_.toNat 0 ^^^ m), 0)

theorem open_none {l : List UInt8} (h : opened l = []) : openK l = (0, [], 11) := by unfold openK; rw [h]
theorem open_zero {l b : List UInt8} (h : opened l = 0 :: b) : openK l = (0, [], 2) := by unfold openK; rw [h]; rfl
theorem open_some {l b : List UInt8} {k : UInt8} (h : opened l = k :: b) (hk : k ≠ 0) : openK l = (k, b, 0) := by unfold openK; rw [h]; simp [hk]
theorem opened_not {l : List UInt8} (h : sealed l = false) : opened l = [] := by unfold opened; rw [h]; rfl
theorem openK_le (l : List UInt8) : (openK l).2.1.length ≤ l.length := by
  have h := opened_le l
  cases ho : opened l with
  | nil => rw [open_none ho]; simp
  | cons k b =>
    rw [ho] at h
    simp only [List.length_cons] at h
    by_cases hk : k = 0
    · subst hk; rw [open_zero ho]; simp
    · rw [open_some ho hk]; simp only; omega
theorem bodyK_le (k : UInt8) (l : List UInt8) : (bodyK k l).1.length ≤ l.length := by
  unfold bodyK
  split
  · simp
  · split
    · simp
    · exact openK_le l
theorem frameL_len (k : UInt8) (l : List UInt8) : (frameL k l).length ≤ l.length + 5 := by
  unfold frameL
  split
  · simp
  · rw [seal_len]; simp
theorem open_frame {k : UInt8} (l : List UInt8) (hk : k ≠ 0) : openK (frameL k l) = (k, l, 0) := by
  unfold frameL
  rw [if_neg hk]
  exact open_some (opened_seal _) hk
end Go.Proofs.Ytponmokiogdejaa
