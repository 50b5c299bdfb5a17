import Derived.Test.YtgeefnmgejnemaaDoorUtfRunes
import Derived.Handy
namespace Go.Proofs.YtgeefnmgejnemaaDoor
open Go.RowKit Go.Shelf Utf
set_option linter.unusedSimpArgs false
set_option linter.unusedVariables false
namespace Utf
theorem bs_one (l : List UInt8) (k : Nat) (h : k < l.length) : (bs l).extract k (k + 1) = bs [l.getD k 0] := by
  refine eq_bs ?_
  rw [Lib.extract_data, bs_data, Nat.add_sub_cancel_left]
  rw [List.drop_eq_getElem_cons h, List.take_succ_cons, List.take_zero]
  simp [List.getD, h]
def hexU : List UInt8 := [48, 49, 50, 51, 52, 53, 54, 55, 56, 57, 65, 66, 67, 68, 69, 70]
def digits (b : Bool) : List UInt8 := if b then hexU else hexL
/-- The escape of a number, as the law writes it. -/
def escB (b : Bool) (n : Nat) : List UInt8 := [92, 117, (digits b).getD (n / 4096 % 16) 0, (digits b).getD (n / 256 % 16) 0, (digits b).getD (n / 16 % 16) 0, (digits b).getD (n % 16) 0]
theorem esc_bytes (T : List UInt8) (hT : T.length = 16) (x0 x1 x2 x3 : Nat) (h0 : x0 < 16) (h1 : x1 < 16) (h2 : x2 < 16) (h3 : x3 < 16) :
    bs [92, 117] ++ (bs T).extract x0 (x0 + 1) ++ (bs T).extract x1 (x1 + 1) ++ (bs T).extract x2 (x2 + 1) ++ (bs T).extract x3 (x3 + 1) = bs [92, 117, T.getD x0 0, T.getD x1 0, T.getD x2 0, T.getD x3 0] := by
  rw [bs_one T x0 (by omega), bs_one T x1 (by omega), bs_one T x2 (by omega), bs_one T x3 (by omega), bs_append, bs_append, bs_append, bs_append]
  rfl
end Utf
set_option maxRecDepth 100000 in
set_option maxHeartbeats 4000000 in
theorem lawEsc_any (n : Nat) (b : Bool) (w : World) (hn : n ≤ 65535) :
    Calls Tryd.prog 19 #[.int .i64 (n : Int), .bool b] w fun e w' => e = .returned (.string (bs (escB b n))) ∧ w = w' := by
  unfold escB
  have q0 : ((n : Int) / 4096 % 16) = ((n / 4096 % 16 : Nat) : Int) := by omega
  have q1 : ((n : Int) / 256 % 16) = ((n / 256 % 16 : Nat) : Int) := by omega
  have q2 : ((n : Int) / 16 % 16) = ((n / 16 % 16 : Nat) : Int) := by omega
  have q3 : ((n : Int) % 16) = ((n % 16 : Nat) : Int) := by omega
  have r0 : n / 4096 % 16 < 16 := by omega
  have r1 : n / 256 % 16 < 16 := by omega
  have r2 : n / 16 % 16 < 16 := by omega
  have r3 : n % 16 < 16 := by omega
  generalize n / 4096 % 16 = x0 at *
  generalize n / 256 % 16 = x1 at *
  generalize n / 16 % 16 = x2 at *
  generalize n % 16 = x3 at *
  have HX := Lib.hid (fun T (hT : T.length = 16) => esc_bytes T hT x0 x1 x2 x3 r0 r1 r2 r3)
  cases b
  · go_enter Tryd.func19, Tryd.ntmps19
    go_wp2
    refine wp_loop_rounds 5 ?_
    rw [rounds_succ]
    go_wp2
    rw [rounds_succ]
    go_wp2
    rw [rounds_succ]
    go_wp2
    rw [rounds_succ]
    go_wp2
    rw [rounds_succ]
    go_wp2
    go_ret
    exact ⟨congrArg (fun s => Ending.returned (.string s)) (HX.out hexL rfl), rfl⟩
  · go_enter Tryd.func19, Tryd.ntmps19
    go_wp2
    refine wp_loop_rounds 5 ?_
    rw [rounds_succ]
    go_wp2
    rw [rounds_succ]
    go_wp2
    rw [rounds_succ]
    go_wp2
    rw [rounds_succ]
    go_wp2
    rw [rounds_succ]
    go_wp2
    go_ret
    exact ⟨congrArg (fun s => Ending.returned (.string s)) (HX.out hexU rfl), rfl⟩
end Go.Proofs.YtgeefnmgejnemaaDoor
