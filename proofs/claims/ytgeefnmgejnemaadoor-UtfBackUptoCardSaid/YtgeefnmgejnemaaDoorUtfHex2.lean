import Derived.Test.YtgeefnmgejnemaaDoorUtfHex
namespace Go.Proofs.YtgeefnmgejnemaaDoor
open Go.RowKit Go.Shelf Utf
set_option linter.unusedSimpArgs false
set_option linter.unusedVariables false
theorem refHex_any (l : List UInt8) (k : Nat) (w : World) (hs : l.length ≤ 140737488351232) (hk : k ≤ 562949953421312) :
    Calls Tryd.prog 35 #[.string (bs l), .int .i64 (k : Int)] w fun e w' => e = .returned (.int .i64 (hexZ (fourL (l.drop k)))) ∧ w' = w := by
  have hz := bs_size l
  have hln : (l.drop k).length = l.length - k := List.length_drop ..
  have hget : ∀ j, (l.drop k).getD j 0 = l.getD (k + j) 0 := fun j => by simp [List.getD, List.getElem?_drop]
  by_cases h6 : l.length < k + 6
  · rw [fourL_bad (l := l.drop k) (.inl (by omega))]
    exact hex_far (bs l) k w (by omega) hk (by omega)
  have k0 : k < (bs l).size := by omega
  have k1 : k + 1 < (bs l).size := by omega
  have g0 := bs_get l k k0
  have g1 := bs_get l (k + 1) k1
  have e0 := hget 0
  have e1 := hget 1
  rw [Nat.add_zero] at e0
  by_cases h0 : (l.getD k 0).toNat = 92
  · by_cases h1 : (l.getD (k + 1) 0).toNat = 117
    · rw [fourL_go (l := l.drop k) (by rw [e0, e1]; omega)]
      refine hex_go _ (bs l) k w (by omega) (by omega) k0 k1 (by rw [g0, h0]; rfl) (by rw [g1, h1]; rfl) (by rw [List.length_take, List.length_drop, hln]; omega) (fun j h hj => ?_)
      rw [bs_get l _ h]
      have : (((l.drop k).drop 2).take 4).getD j 0 = l.getD (k + (j + 2)) 0 := by
        simp only [List.getD, List.getElem?_take, List.getElem?_drop]
        rw [if_pos hj, show k + (2 + j) = k + (j + 2) by omega]
      rw [this]
    · rw [fourL_bad (l := l.drop k) (.inr (.inr (by rw [e1]; exact h1)))]
      exact hex_b1 (bs l) k w (by omega) (by omega) k0 k1 (by rw [g0, h0]; rfl) _ g1 (by rw [beq_eq_false_iff_ne]; omega)
  · rw [fourL_bad (l := l.drop k) (.inr (.inl (by rw [e0]; exact h0)))]
    exact hex_b0 (bs l) k w (by omega) (by omega) k0 _ g0 (by rw [beq_eq_false_iff_ne]; omega)
end Go.Proofs.YtgeefnmgejnemaaDoor
