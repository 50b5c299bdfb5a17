import Derived.Test.YtbanklocochiaaaEvQL
namespace Go.Proofs.Ytbanklocochiaaa
open Go.RowKit
theorem ql_3_0 : qlRun 3 0 := by
  unfold qlRun
  kernel_rfl
theorem ql_3_1 : qlRun 3 1 := by
  unfold qlRun
  kernel_rfl
theorem ql_3_2 : qlRun 3 2 := by
  unfold qlRun
  kernel_rfl
theorem ql_3_3 : qlRun 3 3 := by
  unfold qlRun
  kernel_rfl
theorem ql_3_4 : qlRun 3 4 := by
  unfold qlRun
  kernel_rfl
theorem ql_3_5 : qlRun 3 5 := by
  unfold qlRun
  kernel_rfl
theorem ql_3_6 : qlRun 3 6 := by
  unfold qlRun
  kernel_rfl
theorem ql_3_7 : qlRun 3 7 := by
  unfold qlRun
  kernel_rfl
theorem ql_3_8 : qlRun 3 8 := by
  unfold qlRun
  kernel_rfl
theorem ql_3_9 : qlRun 3 9 := by
  unfold qlRun
  kernel_rfl
theorem ql_3_10 : qlRun 3 10 := by
  unfold qlRun
  kernel_rfl
theorem ql_3_11 : qlRun 3 11 := by
  unfold qlRun
  kernel_rfl
theorem ql_3_12 : qlRun 3 12 := by
  unfold qlRun
  kernel_rfl
theorem ql_3_13 : qlRun 3 13 := by
  unfold qlRun
  kernel_rfl
theorem ql_3_14 : qlRun 3 14 := by
  unfold qlRun
  kernel_rfl
theorem ql_3_15 : qlRun 3 15 := by
  unfold qlRun
  kernel_rfl
theorem ql_3_16 : qlRun 3 16 := by
  unfold qlRun
  kernel_rfl
theorem ql_3_17 : qlRun 3 17 := by
  unfold qlRun
  kernel_rfl
theorem ql_3_18 : qlRun 3 18 := by
  unfold qlRun
  kernel_rfl
theorem ql_3_19 : qlRun 3 19 := by
  unfold qlRun
  kernel_rfl
theorem ql_3_20 : qlRun 3 20 := by
  unfold qlRun
  kernel_rfl
theorem ql_at3 : ∀ n, n ≤ 20 → qlRun 3 n
  | 0, _ => ql_3_0
  | 1, _ => ql_3_1
  | 2, _ => ql_3_2
  | 3, _ => ql_3_3
  | 4, _ => ql_3_4
  | 5, _ => ql_3_5
  | 6, _ => ql_3_6
  | 7, _ => ql_3_7
  | 8, _ => ql_3_8
  | 9, _ => ql_3_9
  | 10, _ => ql_3_10
  | 11, _ => ql_3_11
  | 12, _ => ql_3_12
  | 13, _ => ql_3_13
  | 14, _ => ql_3_14
  | 15, _ => ql_3_15
  | 16, _ => ql_3_16
  | 17, _ => ql_3_17
  | 18, _ => ql_3_18
  | 19, _ => ql_3_19
  | 20, _ => ql_3_20
  | _ + 21, h => absurd h (by omega)
theorem ql_4_0 : qlRun 4 0 := by
  unfold qlRun
  kernel_rfl
theorem ql_4_1 : qlRun 4 1 := by
  unfold qlRun
  kernel_rfl
theorem ql_4_2 : qlRun 4 2 := by
  unfold qlRun
  kernel_rfl
theorem ql_4_3 : qlRun 4 3 := by
  unfold qlRun
  kernel_rfl
theorem ql_4_4 : qlRun 4 4 := by
  unfold qlRun
  kernel_rfl
theorem ql_4_5 : qlRun 4 5 := by
  unfold qlRun
  kernel_rfl
theorem ql_4_6 : qlRun 4 6 := by
  unfold qlRun
  kernel_rfl
theorem ql_4_7 : qlRun 4 7 := by
  unfold qlRun
  kernel_rfl
theorem ql_4_8 : qlRun 4 8 := by
  unfold qlRun
  kernel_rfl
theorem ql_4_9 : qlRun 4 9 := by
  unfold qlRun
  kernel_rfl
theorem ql_4_10 : qlRun 4 10 := by
  unfold qlRun
  kernel_rfl
theorem ql_4_11 : qlRun 4 11 := by
  unfold qlRun
  kernel_rfl
theorem ql_4_12 : qlRun 4 12 := by
  unfold qlRun
  kernel_rfl
theorem ql_4_13 : qlRun 4 13 := by
  unfold qlRun
  kernel_rfl
theorem ql_4_14 : qlRun 4 14 := by
  unfold qlRun
  kernel_rfl
theorem ql_4_15 : qlRun 4 15 := by
  unfold qlRun
  kernel_rfl
theorem ql_4_16 : qlRun 4 16 := by
  unfold qlRun
  kernel_rfl
theorem ql_4_17 : qlRun 4 17 := by
  unfold qlRun
  kernel_rfl
theorem ql_4_18 : qlRun 4 18 := by
  unfold qlRun
  kernel_rfl
theorem ql_4_19 : qlRun 4 19 := by
  unfold qlRun
  kernel_rfl
theorem ql_4_20 : qlRun 4 20 := by
  unfold qlRun
  kernel_rfl
theorem ql_at4 : ∀ n, n ≤ 20 → qlRun 4 n
  | 0, _ => ql_4_0
  | 1, _ => ql_4_1
  | 2, _ => ql_4_2
  | 3, _ => ql_4_3
  | 4, _ => ql_4_4
  | 5, _ => ql_4_5
  | 6, _ => ql_4_6
  | 7, _ => ql_4_7
  | 8, _ => ql_4_8
  | 9, _ => ql_4_9
  | 10, _ => ql_4_10
  | 11, _ => ql_4_11
  | 12, _ => ql_4_12
  | 13, _ => ql_4_13
  | 14, _ => ql_4_14
  | 15, _ => ql_4_15
  | 16, _ => ql_4_16
  | 17, _ => ql_4_17
  | 18, _ => ql_4_18
  | 19, _ => ql_4_19
  | 20, _ => ql_4_20
  | _ + 21, h => absurd h (by omega)
theorem ql_5_0 : qlRun 5 0 := by
  unfold qlRun
  kernel_rfl
theorem ql_5_1 : qlRun 5 1 := by
  unfold qlRun
  kernel_rfl
theorem ql_5_2 : qlRun 5 2 := by
  unfold qlRun
  kernel_rfl
theorem ql_5_3 : qlRun 5 3 := by
  unfold qlRun
  kernel_rfl
theorem ql_5_4 : qlRun 5 4 := by
  unfold qlRun
  kernel_rfl
theorem ql_5_5 : qlRun 5 5 := by
  unfold qlRun
  kernel_rfl
theorem ql_5_6 : qlRun 5 6 := by
  unfold qlRun
  kernel_rfl
theorem ql_5_7 : qlRun 5 7 := by
  unfold qlRun
  kernel_rfl
theorem ql_5_8 : qlRun 5 8 := by
  unfold qlRun
  kernel_rfl
theorem ql_5_9 : qlRun 5 9 := by
  unfold qlRun
  kernel_rfl
theorem ql_5_10 : qlRun 5 10 := by
  unfold qlRun
  kernel_rfl
theorem ql_5_11 : qlRun 5 11 := by
  unfold qlRun
  kernel_rfl
theorem ql_5_12 : qlRun 5 12 := by
  unfold qlRun
  kernel_rfl
theorem ql_5_13 : qlRun 5 13 := by
  unfold qlRun
  kernel_rfl
theorem ql_5_14 : qlRun 5 14 := by
  unfold qlRun
  kernel_rfl
theorem ql_5_15 : qlRun 5 15 := by
  unfold qlRun
  kernel_rfl
theorem ql_5_16 : qlRun 5 16 := by
  unfold qlRun
  kernel_rfl
theorem ql_5_17 : qlRun 5 17 := by
  unfold qlRun
  kernel_rfl
theorem ql_5_18 : qlRun 5 18 := by
  unfold qlRun
  kernel_rfl
theorem ql_5_19 : qlRun 5 19 := by
  unfold qlRun
  kernel_rfl
theorem ql_5_20 : qlRun 5 20 := by
  unfold qlRun
  kernel_rfl
theorem ql_at5 : ∀ n, n ≤ 20 → qlRun 5 n
  | 0, _ => ql_5_0
  | 1, _ => ql_5_1
  | 2, _ => ql_5_2
  | 3, _ => ql_5_3
  | 4, _ => ql_5_4
  | 5, _ => ql_5_5
  | 6, _ => ql_5_6
  | 7, _ => ql_5_7
  | 8, _ => ql_5_8
  | 9, _ => ql_5_9
  | 10, _ => ql_5_10
  | 11, _ => ql_5_11
  | 12, _ => ql_5_12
  | 13, _ => ql_5_13
  | 14, _ => ql_5_14
  | 15, _ => ql_5_15
  | 16, _ => ql_5_16
  | 17, _ => ql_5_17
  | 18, _ => ql_5_18
  | 19, _ => ql_5_19
  | 20, _ => ql_5_20
  | _ + 21, h => absurd h (by omega)
end Go.Proofs.Ytbanklocochiaaa
