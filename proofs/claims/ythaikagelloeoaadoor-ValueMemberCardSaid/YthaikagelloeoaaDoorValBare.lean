import Derived.Test.YthaikagelloeoaaDoorValOpen
import Derived.Test.YthaikagelloeoaaDoorUtfValid
import Derived.Test.YthaikagelloeoaaDoorUtfRef
import Derived.Handy
namespace Go.Proofs.YthaikagelloeoaaDoor
open Go.RowKit Val

theorem str_empty (s : ByteArray) : s.toList.isEmpty = decide (s.size = 0) := by
  rw [Lib.toList_data, Lib.size_eq]
  cases s.data.toList <;> simp
theorem eq0_int (n : Nat) : ((n : Int) == 0) = decide (n = 0) := by rw [Bool.eq_iff_iff]; simp

set_option maxHeartbeats 4000000 in
theorem bare_any (k i : Int) (b : Bool) (s : ByteArray) (A1 A2 : Option Addr) (n1 c1 n2 c2 : Nat) (w : World) :
    Calls Tryd.prog 53 #[.agg #[.int .i64 k, .bool b, .int .i64 i, .string s, .slice A1 n1 c1, .slice A2 n2 c2]] w fun e w' => e = .returned (.bool (bareB k b i s.size n1 n2)) ∧ Below w.heap.size w w' := by
  obtain ⟨q, hq⟩ : ∃ q, q = bareB k b i s.size n1 n2 := ⟨_, rfl⟩
  rw [← hq]
  unfold bareB at hq
  have h1 : (i == 0) = decide (i = 0) := by rw [Bool.eq_iff_iff]; simp
  have h2 := str_empty s
  have h2' := eq0_int s.size
  have h3 := eq0_int n1
  have h4 := eq0_int n2
  generalize decide (i = 0) = q1 at *
  generalize decide (s.size = 0) = q2 at *
  generalize decide (n1 = 0) = q3 at *
  generalize decide (n2 = 0) = q4 at *
  have HQ := Lib.hid hq
  clear hq
  by_cases hk : 1 ≤ k ∧ k ≤ 6
  · have hk' : k = 1 ∨ k = 2 ∨ k = 3 ∨ k = 4 ∨ k = 5 ∨ k = 6 := by omega
    clear hk
    rcases hk' with rfl | rfl | rfl | rfl | rfl | rfl
    · cases b with
      | true =>
        go_enter Tryd.func53, Tryd.ntmps53
        go_wp2
        go_ret
        refine ⟨by rw [HQ.out] <;> simp, ?_⟩
        go_grown
      | false =>
        cases q1 with
        | false =>
          go_enter Tryd.func53, Tryd.ntmps53
          go_wp2
          go_ret
          refine ⟨by rw [HQ.out] <;> simp, ?_⟩
          go_grown
        | true =>
          cases q2 with
          | false =>
            go_enter Tryd.func53, Tryd.ntmps53
            go_wp2
            go_ret
            refine ⟨by rw [HQ.out] <;> simp, ?_⟩
            go_grown
          | true =>
            cases q3 with
            | false =>
              go_enter Tryd.func53, Tryd.ntmps53
              go_wp2
              go_ret
              refine ⟨by rw [HQ.out] <;> simp, ?_⟩
              go_grown
            | true =>
              cases q4 with
              | false =>
                go_enter Tryd.func53, Tryd.ntmps53
                go_wp2
                go_ret
                refine ⟨by rw [HQ.out] <;> simp, ?_⟩
                go_grown
              | true =>
                go_enter Tryd.func53, Tryd.ntmps53
                go_wp2
                go_ret
                refine ⟨by rw [HQ.out] <;> simp, ?_⟩
                go_grown
    · cases q1 with
      | false =>
        go_enter Tryd.func53, Tryd.ntmps53
        go_wp2
        go_ret
        refine ⟨by rw [HQ.out] <;> simp, ?_⟩
        go_grown
      | true =>
        cases q2 with
        | false =>
          go_enter Tryd.func53, Tryd.ntmps53
          go_wp2
          go_ret
          refine ⟨by rw [HQ.out] <;> simp, ?_⟩
          go_grown
        | true =>
          cases q3 with
          | false =>
            go_enter Tryd.func53, Tryd.ntmps53
            go_wp2
            go_ret
            refine ⟨by rw [HQ.out] <;> simp, ?_⟩
            go_grown
          | true =>
            cases q4 with
            | false =>
              go_enter Tryd.func53, Tryd.ntmps53
              go_wp2
              go_ret
              refine ⟨by rw [HQ.out] <;> simp, ?_⟩
              go_grown
            | true =>
              go_enter Tryd.func53, Tryd.ntmps53
              go_wp2
              go_ret
              refine ⟨by rw [HQ.out] <;> simp, ?_⟩
              go_grown
    · cases b with
      | true =>
        go_enter Tryd.func53, Tryd.ntmps53
        go_wp2
        go_ret
        refine ⟨by rw [HQ.out] <;> simp, ?_⟩
        go_grown
      | false =>
        cases q2 with
        | false =>
          go_enter Tryd.func53, Tryd.ntmps53
          go_wp2
          go_ret
          refine ⟨by rw [HQ.out] <;> simp, ?_⟩
          go_grown
        | true =>
          cases q3 with
          | false =>
            go_enter Tryd.func53, Tryd.ntmps53
            go_wp2
            go_ret
            refine ⟨by rw [HQ.out] <;> simp, ?_⟩
            go_grown
          | true =>
            cases q4 with
            | false =>
              go_enter Tryd.func53, Tryd.ntmps53
              go_wp2
              go_ret
              refine ⟨by rw [HQ.out] <;> simp, ?_⟩
              go_grown
            | true =>
              go_enter Tryd.func53, Tryd.ntmps53
              go_wp2
              go_ret
              refine ⟨by rw [HQ.out] <;> simp, ?_⟩
              go_grown
    · cases b with
      | true =>
        go_enter Tryd.func53, Tryd.ntmps53
        go_wp2
        go_ret
        refine ⟨by rw [HQ.out] <;> simp, ?_⟩
        go_grown
      | false =>
        cases q1 with
        | false =>
          go_enter Tryd.func53, Tryd.ntmps53
          go_wp2
          go_ret
          refine ⟨by rw [HQ.out] <;> simp, ?_⟩
          go_grown
        | true =>
          cases q3 with
          | false =>
            go_enter Tryd.func53, Tryd.ntmps53
            go_wp2
            go_ret
            refine ⟨by rw [HQ.out] <;> simp, ?_⟩
            go_grown
          | true =>
            cases q4 with
            | false =>
              go_enter Tryd.func53, Tryd.ntmps53
              go_wp2
              go_ret
              refine ⟨by rw [HQ.out] <;> simp, ?_⟩
              go_grown
            | true =>
              go_enter Tryd.func53, Tryd.ntmps53
              go_wp2
              go_ret
              refine ⟨by rw [HQ.out] <;> simp, ?_⟩
              go_grown
    · cases b with
      | true =>
        go_enter Tryd.func53, Tryd.ntmps53
        go_wp2
        go_ret
        refine ⟨by rw [HQ.out] <;> simp, ?_⟩
        go_grown
      | false =>
        cases q1 with
        | false =>
          go_enter Tryd.func53, Tryd.ntmps53
          go_wp2
          go_ret
          refine ⟨by rw [HQ.out] <;> simp, ?_⟩
          go_grown
        | true =>
          cases q2 with
          | false =>
            go_enter Tryd.func53, Tryd.ntmps53
            go_wp2
            go_ret
            refine ⟨by rw [HQ.out] <;> simp, ?_⟩
            go_grown
          | true =>
            cases q4 with
            | false =>
              go_enter Tryd.func53, Tryd.ntmps53
              go_wp2
              go_ret
              refine ⟨by rw [HQ.out] <;> simp, ?_⟩
              go_grown
            | true =>
              go_enter Tryd.func53, Tryd.ntmps53
              go_wp2
              go_ret
              refine ⟨by rw [HQ.out] <;> simp, ?_⟩
              go_grown
    · cases b with
      | true =>
        go_enter Tryd.func53, Tryd.ntmps53
        go_wp2
        go_ret
        refine ⟨by rw [HQ.out] <;> simp, ?_⟩
        go_grown
      | false =>
        cases q1 with
        | false =>
          go_enter Tryd.func53, Tryd.ntmps53
          go_wp2
          go_ret
          refine ⟨by rw [HQ.out] <;> simp, ?_⟩
          go_grown
        | true =>
          cases q2 with
          | false =>
            go_enter Tryd.func53, Tryd.ntmps53
            go_wp2
            go_ret
            refine ⟨by rw [HQ.out] <;> simp, ?_⟩
            go_grown
          | true =>
            cases q3 with
            | false =>
              go_enter Tryd.func53, Tryd.ntmps53
              go_wp2
              go_ret
              refine ⟨by rw [HQ.out] <;> simp, ?_⟩
              go_grown
            | true =>
              go_enter Tryd.func53, Tryd.ntmps53
              go_wp2
              go_ret
              refine ⟨by rw [HQ.out] <;> simp, ?_⟩
              go_grown
  · have HF : Hid (q = false) := by
      rw [HQ.out]
      simp only [Bool.and_eq_false_iff, decide_eq_false_iff_not]
      left; left; left; left; left
      by_cases h : 1 ≤ k
      · exact .inr (by omega)
      · exact .inl h
    clear HQ
    have t1 : (k == 1) = false := by rw [beq_eq_false_iff_ne]; omega
    have t2 : (k == 2) = false := by rw [beq_eq_false_iff_ne]; omega
    have t3 : (k == 3) = false := by rw [beq_eq_false_iff_ne]; omega
    have t4 : (k == 4) = false := by rw [beq_eq_false_iff_ne]; omega
    have t5 : (k == 5) = false := by rw [beq_eq_false_iff_ne]; omega
    have t6 : (k == 6) = false := by rw [beq_eq_false_iff_ne]; omega
    rcases Int.lt_or_le k 1 with hlt | hge
    · go_enter Tryd.func53, Tryd.ntmps53
      go_wp2
      go_ret
      refine ⟨by rw [HF.out] <;> rfl, ?_⟩
      go_grown
    · have hgt : 6 < k := by omega
      go_enter Tryd.func53, Tryd.ntmps53
      go_wp2
      go_ret
      refine ⟨by rw [HF.out] <;> rfl, ?_⟩
      go_grown

set_option maxHeartbeats 4000000 in
theorem refBare_any (k i : Int) (b : Bool) (s : ByteArray) (A1 A2 : Option Addr) (n1 c1 n2 c2 : Nat) (w : World) :
    Calls Tryd.prog 55 #[.agg #[.int .i64 k, .bool b, .int .i64 i, .string s, .slice A1 n1 c1, .slice A2 n2 c2]] w fun e w' => e = .returned (.bool (bareB k b i s.size n1 n2)) ∧ Below w.heap.size w w' := by
  obtain ⟨q, hq⟩ : ∃ q, q = bareB k b i s.size n1 n2 := ⟨_, rfl⟩
  rw [← hq]
  unfold bareB at hq
  have h1 : (i == 0) = decide (i = 0) := by rw [Bool.eq_iff_iff]; simp
  have h2 := str_empty s
  have h2' := eq0_int s.size
  have h3 := eq0_int n1
  have h4 := eq0_int n2
  generalize decide (i = 0) = q1 at *
  generalize decide (s.size = 0) = q2 at *
  generalize decide (n1 = 0) = q3 at *
  generalize decide (n2 = 0) = q4 at *
  have HQ := Lib.hid hq
  clear hq
  by_cases hk : 1 ≤ k ∧ k ≤ 6
  · have hk' : k = 1 ∨ k = 2 ∨ k = 3 ∨ k = 4 ∨ k = 5 ∨ k = 6 := by omega
    clear hk
    rcases hk' with rfl | rfl | rfl | rfl | rfl | rfl
    · cases b with
      | true =>
        go_enter Tryd.func55, Tryd.ntmps55
        go_wp2
        go_ret
        refine ⟨by rw [HQ.out] <;> simp, ?_⟩
        go_grown
      | false =>
        cases q1 with
        | false =>
          go_enter Tryd.func55, Tryd.ntmps55
          go_wp2
          go_ret
          refine ⟨by rw [HQ.out] <;> simp, ?_⟩
          go_grown
        | true =>
          cases q2 with
          | false =>
            go_enter Tryd.func55, Tryd.ntmps55
            go_wp2
            go_ret
            refine ⟨by rw [HQ.out] <;> simp, ?_⟩
            go_grown
          | true =>
            cases q3 with
            | false =>
              go_enter Tryd.func55, Tryd.ntmps55
              go_wp2
              go_ret
              refine ⟨by rw [HQ.out] <;> simp, ?_⟩
              go_grown
            | true =>
              cases q4 with
              | false =>
                go_enter Tryd.func55, Tryd.ntmps55
                go_wp2
                go_ret
                refine ⟨by rw [HQ.out] <;> simp, ?_⟩
                go_grown
              | true =>
                go_enter Tryd.func55, Tryd.ntmps55
                go_wp2
                go_ret
                refine ⟨by rw [HQ.out] <;> simp, ?_⟩
                go_grown
    · cases q1 with
      | false =>
        go_enter Tryd.func55, Tryd.ntmps55
        go_wp2
        go_ret
        refine ⟨by rw [HQ.out] <;> simp, ?_⟩
        go_grown
      | true =>
        cases q2 with
        | false =>
          go_enter Tryd.func55, Tryd.ntmps55
          go_wp2
          go_ret
          refine ⟨by rw [HQ.out] <;> simp, ?_⟩
          go_grown
        | true =>
          cases q3 with
          | false =>
            go_enter Tryd.func55, Tryd.ntmps55
            go_wp2
            go_ret
            refine ⟨by rw [HQ.out] <;> simp, ?_⟩
            go_grown
          | true =>
            cases q4 with
            | false =>
              go_enter Tryd.func55, Tryd.ntmps55
              go_wp2
              go_ret
              refine ⟨by rw [HQ.out] <;> simp, ?_⟩
              go_grown
            | true =>
              go_enter Tryd.func55, Tryd.ntmps55
              go_wp2
              go_ret
              refine ⟨by rw [HQ.out] <;> simp, ?_⟩
              go_grown
    · cases b with
      | true =>
        go_enter Tryd.func55, Tryd.ntmps55
        go_wp2
        go_ret
        refine ⟨by rw [HQ.out] <;> simp, ?_⟩
        go_grown
      | false =>
        cases q2 with
        | false =>
          go_enter Tryd.func55, Tryd.ntmps55
          go_wp2
          go_ret
          refine ⟨by rw [HQ.out] <;> simp, ?_⟩
          go_grown
        | true =>
          cases q3 with
          | false =>
            go_enter Tryd.func55, Tryd.ntmps55
            go_wp2
            go_ret
            refine ⟨by rw [HQ.out] <;> simp, ?_⟩
            go_grown
          | true =>
            cases q4 with
            | false =>
              go_enter Tryd.func55, Tryd.ntmps55
              go_wp2
              go_ret
              refine ⟨by rw [HQ.out] <;> simp, ?_⟩
              go_grown
            | true =>
              go_enter Tryd.func55, Tryd.ntmps55
              go_wp2
              go_ret
              refine ⟨by rw [HQ.out] <;> simp, ?_⟩
              go_grown
    · cases b with
      | true =>
        go_enter Tryd.func55, Tryd.ntmps55
        go_wp2
        go_ret
        refine ⟨by rw [HQ.out] <;> simp, ?_⟩
        go_grown
      | false =>
        cases q1 with
        | false =>
          go_enter Tryd.func55, Tryd.ntmps55
          go_wp2
          go_ret
          refine ⟨by rw [HQ.out] <;> simp, ?_⟩
          go_grown
        | true =>
          cases q3 with
          | false =>
            go_enter Tryd.func55, Tryd.ntmps55
            go_wp2
            go_ret
            refine ⟨by rw [HQ.out] <;> simp, ?_⟩
            go_grown
          | true =>
            cases q4 with
            | false =>
              go_enter Tryd.func55, Tryd.ntmps55
              go_wp2
              go_ret
              refine ⟨by rw [HQ.out] <;> simp, ?_⟩
              go_grown
            | true =>
              go_enter Tryd.func55, Tryd.ntmps55
              go_wp2
              go_ret
              refine ⟨by rw [HQ.out] <;> simp, ?_⟩
              go_grown
    · cases b with
      | true =>
        go_enter Tryd.func55, Tryd.ntmps55
        go_wp2
        go_ret
        refine ⟨by rw [HQ.out] <;> simp, ?_⟩
        go_grown
      | false =>
        cases q1 with
        | false =>
          go_enter Tryd.func55, Tryd.ntmps55
          go_wp2
          go_ret
          refine ⟨by rw [HQ.out] <;> simp, ?_⟩
          go_grown
        | true =>
          cases q2 with
          | false =>
            go_enter Tryd.func55, Tryd.ntmps55
            go_wp2
            go_ret
            refine ⟨by rw [HQ.out] <;> simp, ?_⟩
            go_grown
          | true =>
            cases q4 with
            | false =>
              go_enter Tryd.func55, Tryd.ntmps55
              go_wp2
              go_ret
              refine ⟨by rw [HQ.out] <;> simp, ?_⟩
              go_grown
            | true =>
              go_enter Tryd.func55, Tryd.ntmps55
              go_wp2
              go_ret
              refine ⟨by rw [HQ.out] <;> simp, ?_⟩
              go_grown
    · cases b with
      | true =>
        go_enter Tryd.func55, Tryd.ntmps55
        go_wp2
        go_ret
        refine ⟨by rw [HQ.out] <;> simp, ?_⟩
        go_grown
      | false =>
        cases q1 with
        | false =>
          go_enter Tryd.func55, Tryd.ntmps55
          go_wp2
          go_ret
          refine ⟨by rw [HQ.out] <;> simp, ?_⟩
          go_grown
        | true =>
          cases q2 with
          | false =>
            go_enter Tryd.func55, Tryd.ntmps55
            go_wp2
            go_ret
            refine ⟨by rw [HQ.out] <;> simp, ?_⟩
            go_grown
          | true =>
            cases q3 with
            | false =>
              go_enter Tryd.func55, Tryd.ntmps55
              go_wp2
              go_ret
              refine ⟨by rw [HQ.out] <;> simp, ?_⟩
              go_grown
            | true =>
              go_enter Tryd.func55, Tryd.ntmps55
              go_wp2
              go_ret
              refine ⟨by rw [HQ.out] <;> simp, ?_⟩
              go_grown
  · have HF : Hid (q = false) := by
      rw [HQ.out]
      simp only [Bool.and_eq_false_iff, decide_eq_false_iff_not]
      left; left; left; left; left
      by_cases h : 1 ≤ k
      · exact .inr (by omega)
      · exact .inl h
    clear HQ
    have t1 : (k == 1) = false := by rw [beq_eq_false_iff_ne]; omega
    have t2 : (k == 2) = false := by rw [beq_eq_false_iff_ne]; omega
    have t3 : (k == 3) = false := by rw [beq_eq_false_iff_ne]; omega
    have t4 : (k == 4) = false := by rw [beq_eq_false_iff_ne]; omega
    have t5 : (k == 5) = false := by rw [beq_eq_false_iff_ne]; omega
    have t6 : (k == 6) = false := by rw [beq_eq_false_iff_ne]; omega
    rcases Int.lt_or_le k 1 with hlt | hge
    · go_enter Tryd.func55, Tryd.ntmps55
      go_wp2
      go_ret
      refine ⟨by rw [HF.out] <;> rfl, ?_⟩
      go_grown
    · have hgt : 6 < k := by omega
      go_enter Tryd.func55, Tryd.ntmps55
      go_wp2
      go_ret
      refine ⟨by rw [HF.out] <;> rfl, ?_⟩
      go_grown

end Go.Proofs.YthaikagelloeoaaDoor
