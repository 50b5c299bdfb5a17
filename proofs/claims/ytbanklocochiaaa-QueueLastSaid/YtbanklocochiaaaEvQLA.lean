import Derived.Test.YtbanklocochiaaaEvQL
namespace Go.Proofs.Ytbanklocochiaaa
open Go.RowKit
theorem ql_0_0 : qlRun 0 0 := by
  unfold qlRun
  kernel_rfl
theorem ql_0_1 : qlRun 0 1 := by
  unfold qlRun
  kernel_rfl
theorem ql_0_2 : qlRun 0 2 := by
  unfold qlRun
  kernel_rfl
theorem ql_0_3 : qlRun 0 3 := by
  unfold qlRun
  kernel_rfl
theorem ql_0_4 : qlRun 0 4 := by
  unfold qlRun
  kernel_rfl
theorem ql_0_5 : qlRun 0 5 := by
  unfold qlRun
  kernel_rfl
theorem ql_0_6 : qlRun 0 6 := by
  unfold qlRun
  kernel_rfl
theorem ql_0_7 : qlRun 0 7 := by
  unfold qlRun
  kernel_rfl
theorem ql_0_8 : qlRun 0 8 := by
  unfold qlRun
  kernel_rfl
theorem ql_0_9 : qlRun 0 9 := by
  unfold qlRun
  kernel_rfl
theorem ql_0_10 : qlRun 0 10 := by
  unfold qlRun
  kernel_rfl
theorem ql_0_11 : qlRun 0 11 := by
  unfold qlRun
  kernel_rfl
theorem ql_0_12 : qlRun 0 12 := by
  unfold qlRun
  kernel_rfl
theorem ql_0_13 : qlRun 0 13 := by
  unfold qlRun
  kernel_rfl
theorem ql_0_14 : qlRun 0 14 := by
  unfold qlRun
  kernel_rfl
theorem ql_0_15 : qlRun 0 15 := by
  unfold qlRun
  kernel_rfl
theorem ql_0_16 : qlRun 0 16 := by
  unfold qlRun
  kernel_rfl
theorem ql_0_17 : qlRun 0 17 := by
  unfold qlRun
  kernel_rfl
theorem ql_0_18 : qlRun 0 18 := by
  unfold qlRun
  kernel_rfl
theorem ql_0_19 : qlRun 0 19 := by
  unfold qlRun
  kernel_rfl
theorem ql_0_20 : qlRun 0 20 := by
  unfold qlRun
  kernel_rfl
theorem ql_at0 : ∀ n, n ≤ 20 → qlRun 0 n
  | 0, _ => ql_0_0
  | 1, _ => ql_0_1
  | 2, _ => ql_0_2
  | 3, _ => ql_0_3
  | 4, _ => ql_0_4
  | 5, _ => ql_0_5
  | 6, _ => ql_0_6
  | 7, _ => ql_0_7
  | 8, _ => ql_0_8
  | 9, _ => ql_0_9
  | 10, _ => ql_0_10
  | 11, _ => ql_0_11
  | 12, _ => ql_0_12
  | 13, _ => ql_0_13
  | 14, _ => ql_0_14
  | 15, _ => ql_0_15
  | 16, _ => ql_0_16
  | 17, _ => ql_0_17
  | 18, _ => ql_0_18
  | 19, _ => ql_0_19
  | 20, _ => ql_0_20
  | _ + 21, h => absurd h (by omega)
theorem ql_1_0 : qlRun 1 0 := by
  unfold qlRun
  kernel_rfl
theorem ql_1_1 : qlRun 1 1 := by
  unfold qlRun
  kernel_rfl
theorem ql_1_2 : qlRun 1 2 := by
  unfold qlRun
  kernel_rfl
theorem ql_1_3 : qlRun 1 3 := by
  unfold qlRun
  kernel_rfl
theorem ql_1_4 : qlRun 1 4 := by
  unfold qlRun
  kernel_rfl
theorem ql_1_5 : qlRun 1 5 := by
  unfold qlRun
  kernel_rfl
theorem ql_1_6 : qlRun 1 6 := by
  unfold qlRun
  kernel_rfl
theorem ql_1_7 : qlRun 1 7 := by
  unfold qlRun
  kernel_rfl
theorem ql_1_8 : qlRun 1 8 := by
  unfold qlRun
  kernel_rfl
theorem ql_1_9 : qlRun 1 9 := by
  unfold qlRun
  kernel_rfl
theorem ql_1_10 : qlRun 1 10 := by
  unfold qlRun
  kernel_rfl
theorem ql_1_11 : qlRun 1 11 := by
  unfold qlRun
  kernel_rfl
theorem ql_1_12 : qlRun 1 12 := by
  unfold qlRun
  kernel_rfl
theorem ql_1_13 : qlRun 1 13 := by
  unfold qlRun
  kernel_rfl
theorem ql_1_14 : qlRun 1 14 := by
  unfold qlRun
  kernel_rfl
theorem ql_1_15 : qlRun 1 15 := by
  unfold qlRun
  kernel_rfl
theorem ql_1_16 : qlRun 1 16 := by
  unfold qlRun
  kernel_rfl
theorem ql_1_17 : qlRun 1 17 := by
  unfold qlRun
  kernel_rfl
theorem ql_1_18 : qlRun 1 18 := by
  unfold qlRun
  kernel_rfl
theorem ql_1_19 : qlRun 1 19 := by
  unfold qlRun
  kernel_rfl
theorem ql_1_20 : qlRun 1 20 := by
  unfold qlRun
  kernel_rfl
theorem ql_at1 : ∀ n, n ≤ 20 → qlRun 1 n
  | 0, _ => ql_1_0
  | 1, _ => ql_1_1
  | 2, _ => ql_1_2
  | 3, _ => ql_1_3
  | 4, _ => ql_1_4
  | 5, _ => ql_1_5
  | 6, _ => ql_1_6
  | 7, _ => ql_1_7
  | 8, _ => ql_1_8
  | 9, _ => ql_1_9
  | 10, _ => ql_1_10
  | 11, _ => ql_1_11
  | 12, _ => ql_1_12
  | 13, _ => ql_1_13
  | 14, _ => ql_1_14
  | 15, _ => ql_1_15
  | 16, _ => ql_1_16
  | 17, _ => ql_1_17
  | 18, _ => ql_1_18
  | 19, _ => ql_1_19
  | 20, _ => ql_1_20
  | _ + 21, h => absurd h (by omega)
theorem ql_2_0 : qlRun 2 0 := by
  unfold qlRun
  kernel_rfl
theorem ql_2_1 : qlRun 2 1 := by
  unfold qlRun
  kernel_rfl
theorem ql_2_2 : qlRun 2 2 := by
  unfold qlRun
  kernel_rfl
theorem ql_2_3 : qlRun 2 3 := by
  unfold qlRun
  kernel_rfl
theorem ql_2_4 : qlRun 2 4 := by
  unfold qlRun
  kernel_rfl
theorem ql_2_5 : qlRun 2 5 := by
  unfold qlRun
  kernel_rfl
theorem ql_2_6 : qlRun 2 6 := by
  unfold qlRun
  kernel_rfl
theorem ql_2_7 : qlRun 2 7 := by
  unfold qlRun
  kernel_rfl
theorem ql_2_8 : qlRun 2 8 := by
  unfold qlRun
  kernel_rfl
theorem ql_2_9 : qlRun 2 9 := by
  unfold qlRun
  kernel_rfl
theorem ql_2_10 : qlRun 2 10 := by
  unfold qlRun
  kernel_rfl
theorem ql_2_11 : qlRun 2 11 := by
  unfold qlRun
  kernel_rfl
theorem ql_2_12 : qlRun 2 12 := by
  unfold qlRun
  kernel_rfl
theorem ql_2_13 : qlRun 2 13 := by
  unfold qlRun
  kernel_rfl
theorem ql_2_14 : qlRun 2 14 := by
  unfold qlRun
  kernel_rfl
theorem ql_2_15 : qlRun 2 15 := by
  unfold qlRun
  kernel_rfl
theorem ql_2_16 : qlRun 2 16 := by
  unfold qlRun
  kernel_rfl
theorem ql_2_17 : qlRun 2 17 := by
  unfold qlRun
  kernel_rfl
theorem ql_2_18 : qlRun 2 18 := by
  unfold qlRun
  kernel_rfl
theorem ql_2_19 : qlRun 2 19 := by
  unfold qlRun
  kernel_rfl
theorem ql_2_20 : qlRun 2 20 := by
  unfold qlRun
  kernel_rfl
theorem ql_at2 : ∀ n, n ≤ 20 → qlRun 2 n
  | 0, _ => ql_2_0
  | 1, _ => ql_2_1
  | 2, _ => ql_2_2
  | 3, _ => ql_2_3
  | 4, _ => ql_2_4
  | 5, _ => ql_2_5
  | 6, _ => ql_2_6
  | 7, _ => ql_2_7
  | 8, _ => ql_2_8
  | 9, _ => ql_2_9
  | 10, _ => ql_2_10
  | 11, _ => ql_2_11
  | 12, _ => ql_2_12
  | 13, _ => ql_2_13
  | 14, _ => ql_2_14
  | 15, _ => ql_2_15
  | 16, _ => ql_2_16
  | 17, _ => ql_2_17
  | 18, _ => ql_2_18
  | 19, _ => ql_2_19
  | 20, _ => ql_2_20
  | _ + 21, h => absurd h (by omega)
end Go.Proofs.Ytbanklocochiaaa
