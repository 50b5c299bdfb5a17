import Derived.Test.YtbanklocochiaaaEvQL
namespace Go.Proofs.Ytbanklocochiaaa
open Go.RowKit
theorem ql_6_0 : qlRun 6 0 := by
  unfold qlRun
  kernel_rfl
theorem ql_6_1 : qlRun 6 1 := by
  unfold qlRun
  kernel_rfl
theorem ql_6_2 : qlRun 6 2 := by
  unfold qlRun
  kernel_rfl
theorem ql_6_3 : qlRun 6 3 := by
  unfold qlRun
  kernel_rfl
theorem ql_6_4 : qlRun 6 4 := by
  unfold qlRun
  kernel_rfl
theorem ql_6_5 : qlRun 6 5 := by
  unfold qlRun
  kernel_rfl
theorem ql_6_6 : qlRun 6 6 := by
  unfold qlRun
  kernel_rfl
theorem ql_6_7 : qlRun 6 7 := by
  unfold qlRun
  kernel_rfl
theorem ql_6_8 : qlRun 6 8 := by
  unfold qlRun
  kernel_rfl
theorem ql_6_9 : qlRun 6 9 := by
  unfold qlRun
  kernel_rfl
theorem ql_6_10 : qlRun 6 10 := by
  unfold qlRun
  kernel_rfl
theorem ql_6_11 : qlRun 6 11 := by
  unfold qlRun
  kernel_rfl
theorem ql_6_12 : qlRun 6 12 := by
  unfold qlRun
  kernel_rfl
theorem ql_6_13 : qlRun 6 13 := by
  unfold qlRun
  kernel_rfl
theorem ql_6_14 : qlRun 6 14 := by
  unfold qlRun
  kernel_rfl
theorem ql_6_15 : qlRun 6 15 := by
  unfold qlRun
  kernel_rfl
theorem ql_6_16 : qlRun 6 16 := by
  unfold qlRun
  kernel_rfl
theorem ql_6_17 : qlRun 6 17 := by
  unfold qlRun
  kernel_rfl
theorem ql_6_18 : qlRun 6 18 := by
  unfold qlRun
  kernel_rfl
theorem ql_6_19 : qlRun 6 19 := by
  unfold qlRun
  kernel_rfl
theorem ql_6_20 : qlRun 6 20 := by
  unfold qlRun
  kernel_rfl
theorem ql_at6 : ∀ n, n ≤ 20 → qlRun 6 n
  | 0, _ => ql_6_0
  | 1, _ => ql_6_1
  | 2, _ => ql_6_2
  | 3, _ => ql_6_3
  | 4, _ => ql_6_4
  | 5, _ => ql_6_5
  | 6, _ => ql_6_6
  | 7, _ => ql_6_7
  | 8, _ => ql_6_8
  | 9, _ => ql_6_9
  | 10, _ => ql_6_10
  | 11, _ => ql_6_11
  | 12, _ => ql_6_12
  | 13, _ => ql_6_13
  | 14, _ => ql_6_14
  | 15, _ => ql_6_15
  | 16, _ => ql_6_16
  | 17, _ => ql_6_17
  | 18, _ => ql_6_18
  | 19, _ => ql_6_19
  | 20, _ => ql_6_20
  | _ + 21, h => absurd h (by omega)
theorem ql_7_0 : qlRun 7 0 := by
  unfold qlRun
  kernel_rfl
theorem ql_7_1 : qlRun 7 1 := by
  unfold qlRun
  kernel_rfl
theorem ql_7_2 : qlRun 7 2 := by
  unfold qlRun
  kernel_rfl
theorem ql_7_3 : qlRun 7 3 := by
  unfold qlRun
  kernel_rfl
theorem ql_7_4 : qlRun 7 4 := by
  unfold qlRun
  kernel_rfl
theorem ql_7_5 : qlRun 7 5 := by
  unfold qlRun
  kernel_rfl
theorem ql_7_6 : qlRun 7 6 := by
  unfold qlRun
  kernel_rfl
theorem ql_7_7 : qlRun 7 7 := by
  unfold qlRun
  kernel_rfl
theorem ql_7_8 : qlRun 7 8 := by
  unfold qlRun
  kernel_rfl
theorem ql_7_9 : qlRun 7 9 := by
  unfold qlRun
  kernel_rfl
theorem ql_7_10 : qlRun 7 10 := by
  unfold qlRun
  kernel_rfl
theorem ql_7_11 : qlRun 7 11 := by
  unfold qlRun
  kernel_rfl
theorem ql_7_12 : qlRun 7 12 := by
  unfold qlRun
  kernel_rfl
theorem ql_7_13 : qlRun 7 13 := by
  unfold qlRun
  kernel_rfl
theorem ql_7_14 : qlRun 7 14 := by
  unfold qlRun
  kernel_rfl
theorem ql_7_15 : qlRun 7 15 := by
  unfold qlRun
  kernel_rfl
theorem ql_7_16 : qlRun 7 16 := by
  unfold qlRun
  kernel_rfl
theorem ql_7_17 : qlRun 7 17 := by
  unfold qlRun
  kernel_rfl
theorem ql_7_18 : qlRun 7 18 := by
  unfold qlRun
  kernel_rfl
theorem ql_7_19 : qlRun 7 19 := by
  unfold qlRun
  kernel_rfl
theorem ql_7_20 : qlRun 7 20 := by
  unfold qlRun
  kernel_rfl
theorem ql_at7 : ∀ n, n ≤ 20 → qlRun 7 n
  | 0, _ => ql_7_0
  | 1, _ => ql_7_1
  | 2, _ => ql_7_2
  | 3, _ => ql_7_3
  | 4, _ => ql_7_4
  | 5, _ => ql_7_5
  | 6, _ => ql_7_6
  | 7, _ => ql_7_7
  | 8, _ => ql_7_8
  | 9, _ => ql_7_9
  | 10, _ => ql_7_10
  | 11, _ => ql_7_11
  | 12, _ => ql_7_12
  | 13, _ => ql_7_13
  | 14, _ => ql_7_14
  | 15, _ => ql_7_15
  | 16, _ => ql_7_16
  | 17, _ => ql_7_17
  | 18, _ => ql_7_18
  | 19, _ => ql_7_19
  | 20, _ => ql_7_20
  | _ + 21, h => absurd h (by omega)
theorem ql_8_0 : qlRun 8 0 := by
  unfold qlRun
  kernel_rfl
theorem ql_8_1 : qlRun 8 1 := by
  unfold qlRun
  kernel_rfl
theorem ql_8_2 : qlRun 8 2 := by
  unfold qlRun
  kernel_rfl
theorem ql_8_3 : qlRun 8 3 := by
  unfold qlRun
  kernel_rfl
theorem ql_8_4 : qlRun 8 4 := by
  unfold qlRun
  kernel_rfl
theorem ql_8_5 : qlRun 8 5 := by
  unfold qlRun
  kernel_rfl
theorem ql_8_6 : qlRun 8 6 := by
  unfold qlRun
  kernel_rfl
theorem ql_8_7 : qlRun 8 7 := by
  unfold qlRun
  kernel_rfl
theorem ql_8_8 : qlRun 8 8 := by
  unfold qlRun
  kernel_rfl
theorem ql_8_9 : qlRun 8 9 := by
  unfold qlRun
  kernel_rfl
theorem ql_8_10 : qlRun 8 10 := by
  unfold qlRun
  kernel_rfl
theorem ql_8_11 : qlRun 8 11 := by
  unfold qlRun
  kernel_rfl
theorem ql_8_12 : qlRun 8 12 := by
  unfold qlRun
  kernel_rfl
theorem ql_8_13 : qlRun 8 13 := by
  unfold qlRun
  kernel_rfl
theorem ql_8_14 : qlRun 8 14 := by
  unfold qlRun
  kernel_rfl
theorem ql_8_15 : qlRun 8 15 := by
  unfold qlRun
  kernel_rfl
theorem ql_8_16 : qlRun 8 16 := by
  unfold qlRun
  kernel_rfl
theorem ql_8_17 : qlRun 8 17 := by
  unfold qlRun
  kernel_rfl
theorem ql_8_18 : qlRun 8 18 := by
  unfold qlRun
  kernel_rfl
theorem ql_8_19 : qlRun 8 19 := by
  unfold qlRun
  kernel_rfl
theorem ql_8_20 : qlRun 8 20 := by
  unfold qlRun
  kernel_rfl
theorem ql_at8 : ∀ n, n ≤ 20 → qlRun 8 n
  | 0, _ => ql_8_0
  | 1, _ => ql_8_1
  | 2, _ => ql_8_2
  | 3, _ => ql_8_3
  | 4, _ => ql_8_4
  | 5, _ => ql_8_5
  | 6, _ => ql_8_6
  | 7, _ => ql_8_7
  | 8, _ => ql_8_8
  | 9, _ => ql_8_9
  | 10, _ => ql_8_10
  | 11, _ => ql_8_11
  | 12, _ => ql_8_12
  | 13, _ => ql_8_13
  | 14, _ => ql_8_14
  | 15, _ => ql_8_15
  | 16, _ => ql_8_16
  | 17, _ => ql_8_17
  | 18, _ => ql_8_18
  | 19, _ => ql_8_19
  | 20, _ => ql_8_20
  | _ + 21, h => absurd h (by omega)
end Go.Proofs.Ytbanklocochiaaa
