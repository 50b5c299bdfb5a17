import Derived.Test.YtgeefnmgejnemaaDoorUtfKnown
namespace Go.Proofs.YtgeefnmgejnemaaDoor
open Go.RowKit Utf
open Go.Lib (validD)

theorem utfValid_walk (s : ByteArray) (w : World) (hT : Tabs w) (_hk : s.size ≤ 140737488351232) :
    Calls Tryd.prog 3 #[.string s] w fun e w' => e = .returned (.bool true) ∧ Below w.heap.size w w' := by
  have c1 := utfValid_any s w (by omega) hT
  have c2 := fun W => refValid_any s W (by omega)
  obtain ⟨b, hb⟩ : ∃ b, validD s.data.toList = b := ⟨_, rfl⟩
  rw [hb] at c1
  simp only [hb] at c2
  have HC := Lib.hid c1
  have HD := Lib.hid c2
  have HK := Lib.hid known_any
  have hbb : (b == b) = true := by simp
  clear c1 c2 hb
  go_enter Tryd.func3, Tryd.ntmps3
  go_wp2_with fail
  ((with_reducible refine HC.out.mono ?_); rintro e w1 ⟨rfl, b1⟩)
  go_wp2_with fail
  ((with_reducible refine (HD.out _).mono ?_); rintro e w2 ⟨rfl, rfl⟩)
  go_wp2_with fail
  ((with_reducible refine (HK.out _ (tabs_below hT b1)).mono ?_); rintro e w3 ⟨rfl, b3⟩)
  have k3 := bthen b1 b3
  go_wp2
  go_ret
  exact ⟨rfl, k3⟩
end Go.Proofs.YtgeefnmgejnemaaDoor
