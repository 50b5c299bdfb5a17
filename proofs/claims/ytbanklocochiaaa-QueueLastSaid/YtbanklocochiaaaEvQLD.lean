import Derived.Test.YtbanklocochiaaaEvQL
namespace Go.Proofs.Ytbanklocochiaaa
open Go.RowKit
theorem ql_9_0 : qlRun 9 0 := by
  unfold qlRun
  kernel_rfl
theorem ql_9_1 : qlRun 9 1 := by
  unfold qlRun
  kernel_rfl
theorem ql_9_2 : qlRun 9 2 := by
  unfold qlRun
  kernel_rfl
theorem ql_9_3 : qlRun 9 3 := by
  unfold qlRun
  kernel_rfl
theorem ql_9_4 : qlRun 9 4 := by
  unfold qlRun
  kernel_rfl
theorem ql_9_5 : qlRun 9 5 := by
  unfold qlRun
  kernel_rfl
theorem ql_9_6 : qlRun 9 6 := by
  unfold qlRun
  kernel_rfl
theorem ql_9_7 : qlRun 9 7 := by
  unfold qlRun
  kernel_rfl
theorem ql_9_8 : qlRun 9 8 := by
  unfold qlRun
  kernel_rfl
theorem ql_9_9 : qlRun 9 9 := by
  unfold qlRun
  kernel_rfl
theorem ql_9_10 : qlRun 9 10 := by
  unfold qlRun
  kernel_rfl
theorem ql_9_11 : qlRun 9 11 := by
  unfold qlRun
  kernel_rfl
theorem ql_9_12 : qlRun 9 12 := by
  unfold qlRun
  kernel_rfl
theorem ql_9_13 : qlRun 9 13 := by
  unfold qlRun
  kernel_rfl
theorem ql_9_14 : qlRun 9 14 := by
  unfold qlRun
  kernel_rfl
theorem ql_9_15 : qlRun 9 15 := by
  unfold qlRun
  kernel_rfl
theorem ql_9_16 : qlRun 9 16 := by
  unfold qlRun
  kernel_rfl
theorem ql_9_17 : qlRun 9 17 := by
  unfold qlRun
  kernel_rfl
theorem ql_9_18 : qlRun 9 18 := by
  unfold qlRun
  kernel_rfl
theorem ql_9_19 : qlRun 9 19 := by
  unfold qlRun
  kernel_rfl
theorem ql_9_20 : qlRun 9 20 := by
  unfold qlRun
  kernel_rfl
theorem ql_at9 : ∀ n, n ≤ 20 → qlRun 9 n
  | 0, _ => ql_9_0
  | 1, _ => ql_9_1
  | 2, _ => ql_9_2
  | 3, _ => ql_9_3
  | 4, _ => ql_9_4
  | 5, _ => ql_9_5
  | 6, _ => ql_9_6
  | 7, _ => ql_9_7
  | 8, _ => ql_9_8
  | 9, _ => ql_9_9
  | 10, _ => ql_9_10
  | 11, _ => ql_9_11
  | 12, _ => ql_9_12
  | 13, _ => ql_9_13
  | 14, _ => ql_9_14
  | 15, _ => ql_9_15
  | 16, _ => ql_9_16
  | 17, _ => ql_9_17
  | 18, _ => ql_9_18
  | 19, _ => ql_9_19
  | 20, _ => ql_9_20
  | _ + 21, h => absurd h (by omega)
theorem ql_10_0 : qlRun 10 0 := by
  unfold qlRun
  kernel_rfl
theorem ql_10_1 : qlRun 10 1 := by
  unfold qlRun
  kernel_rfl
theorem ql_10_2 : qlRun 10 2 := by
  unfold qlRun
  kernel_rfl
theorem ql_10_3 : qlRun 10 3 := by
  unfold qlRun
  kernel_rfl
theorem ql_10_4 : qlRun 10 4 := by
  unfold qlRun
  kernel_rfl
theorem ql_10_5 : qlRun 10 5 := by
  unfold qlRun
  kernel_rfl
theorem ql_10_6 : qlRun 10 6 := by
  unfold qlRun
  kernel_rfl
theorem ql_10_7 : qlRun 10 7 := by
  unfold qlRun
  kernel_rfl
theorem ql_10_8 : qlRun 10 8 := by
  unfold qlRun
  kernel_rfl
theorem ql_10_9 : qlRun 10 9 := by
  unfold qlRun
  kernel_rfl
theorem ql_10_10 : qlRun 10 10 := by
  unfold qlRun
  kernel_rfl
theorem ql_10_11 : qlRun 10 11 := by
  unfold qlRun
  kernel_rfl
theorem ql_10_12 : qlRun 10 12 := by
  unfold qlRun
  kernel_rfl
theorem ql_10_13 : qlRun 10 13 := by
  unfold qlRun
  kernel_rfl
theorem ql_10_14 : qlRun 10 14 := by
  unfold qlRun
  kernel_rfl
theorem ql_10_15 : qlRun 10 15 := by
  unfold qlRun
  kernel_rfl
theorem ql_10_16 : qlRun 10 16 := by
  unfold qlRun
  kernel_rfl
theorem ql_10_17 : qlRun 10 17 := by
  unfold qlRun
  kernel_rfl
theorem ql_10_18 : qlRun 10 18 := by
  unfold qlRun
  kernel_rfl
theorem ql_10_19 : qlRun 10 19 := by
  unfold qlRun
  kernel_rfl
theorem ql_10_20 : qlRun 10 20 := by
  unfold qlRun
  kernel_rfl
theorem ql_at10 : ∀ n, n ≤ 20 → qlRun 10 n
  | 0, _ => ql_10_0
  | 1, _ => ql_10_1
  | 2, _ => ql_10_2
  | 3, _ => ql_10_3
  | 4, _ => ql_10_4
  | 5, _ => ql_10_5
  | 6, _ => ql_10_6
  | 7, _ => ql_10_7
  | 8, _ => ql_10_8
  | 9, _ => ql_10_9
  | 10, _ => ql_10_10
  | 11, _ => ql_10_11
  | 12, _ => ql_10_12
  | 13, _ => ql_10_13
  | 14, _ => ql_10_14
  | 15, _ => ql_10_15
  | 16, _ => ql_10_16
  | 17, _ => ql_10_17
  | 18, _ => ql_10_18
  | 19, _ => ql_10_19
  | 20, _ => ql_10_20
  | _ + 21, h => absurd h (by omega)
end Go.Proofs.Ytbanklocochiaaa
