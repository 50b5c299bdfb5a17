import Derived.Test.YtddncmbibkibeaaDoorKeysKnown
namespace Go.Proofs.YtddncmbibkibeaaDoor
open Go.RowKit Utf Keys
open Go.Lib (validD hasPrefix)

theorem keysMay_walk (k : ByteArray) (w : World) (hT : Tabs w) (_hk : k.size ≤ 140737488351232) :
    Calls Tryd.prog 3 #[.string k] w fun e w' => e = .returned (.bool true) ∧ Below w.heap.size w w' := by
  have hl : k.data.toList.length ≤ 140737488351232 := by rw [← Lib.size_eq]; exact _hk
  have c1 := may_any k.data.toList w (by omega) hT
  have c2 : ∀ W, Calls Tryd.prog 11 #[.string (bs k.data.toList)] W _ := fun W => refMay_any k.data.toList W (by omega)
  obtain ⟨q, hq⟩ : ∃ q, q = may k.data.toList := ⟨_, rfl⟩
  rw [← bs_of, ← hq] at c1 c2
  have HC := Lib.hid c1
  have HD := Lib.hid c2
  have hqq : (((q : Nat) : Int) == (q : Int)) = true := by simp
  clear c1 c2 hq
  go_enter Tryd.func3, Tryd.ntmps3
  go_wp2_with fail
  ((with_reducible refine HC.out.mono ?_); rintro e w1 ⟨rfl, b1⟩)
  go_wp2_with fail
  ((with_reducible refine (HD.out _).mono ?_); rintro e w2 ⟨rfl, rfl⟩)
  go_wp2_with fail
  ((with_reducible refine (keysKnown_any _ (tabs_below hT b1)).mono ?_); rintro e w3 ⟨rfl, b3⟩)
  have k3 := bthen b1 b3
  go_wp2
  go_ret
  exact ⟨rfl, k3⟩

theorem keysEnd_walk (k : ByteArray) (w : World) (hT : Tabs w) (_hk : k.size ≤ 140737488351232) :
    Calls Tryd.prog 4 #[.string k] w fun e w' => e = .returned (.bool true) ∧ Below w.heap.size w w' := by
  have hl : k.data.toList.length ≤ 140737488351232 := by rw [← Lib.size_eq]; exact _hk
  have c1 : ∀ W, Calls Tryd.prog 13 #[.string (bs k.data.toList)] W _ := fun W => end_any k.data.toList W (by omega)
  have c2 : ∀ W, Calls Tryd.prog 14 #[.string (bs k.data.toList)] W _ := fun W => refEnd_any k.data.toList W (by omega)
  obtain ⟨⟨a, b⟩, hq⟩ : ∃ q, q = endL k.data.toList := ⟨_, rfl⟩
  rw [← bs_of, ← hq] at c1 c2
  unfold strBool at c1 c2
  obtain ⟨s, hs⟩ : ∃ s, s = bs a := ⟨_, rfl⟩
  simp only [← hs] at c1 c2
  have HC := Lib.hid c1
  have HD := Lib.hid c2
  have hss : (s.toList == s.toList) = true := by simp
  have hbb : (b == b) = true := by simp
  clear c1 c2 hq hs
  go_enter Tryd.func4, Tryd.ntmps4
  go_wp2_with fail
  ((with_reducible refine (HC.out _).mono ?_); rintro e w1 ⟨rfl, b1⟩)
  go_wp2_with fail
  ((with_reducible refine (HD.out _).mono ?_); rintro e w2 ⟨rfl, b2⟩)
  have k2 := bthen b1 b2
  go_wp2_with fail
  ((with_reducible refine (keysKnown_any _ (tabs_below hT k2)).mono ?_); rintro e w3 ⟨rfl, b3⟩)
  have k3 := bthen k2 b3
  go_wp2
  go_ret
  exact ⟨rfl, k3⟩

theorem keysTurn_walk (k f t : ByteArray) (w : World) (hT : Tabs w) (_hk : k.size ≤ 140737488351232) (_hf : f.size ≤ 140737488351232) (_ht : t.size ≤ 140737488351232) :
    Calls Tryd.prog 8 #[.string k, .string f, .string t] w fun e w' => e = .returned (.bool true) ∧ Below w.heap.size w w' := by
  have hl : k.data.toList.length ≤ 140737488351232 := by rw [← Lib.size_eq]; exact _hk
  have hl2 : f.data.toList.length ≤ 140737488351232 := by rw [← Lib.size_eq]; exact _hf
  have hl3 : t.data.toList.length ≤ 140737488351232 := by rw [← Lib.size_eq]; exact _ht
  have c1 : ∀ W, Tabs W → Calls Tryd.prog 18 #[.string (bs k.data.toList), .string (bs f.data.toList), .string (bs t.data.toList)] W _ := fun W hW => turn_any k.data.toList f.data.toList t.data.toList W (by omega) (by omega) (by omega) hW
  have c2 : ∀ W, Tabs W → Calls Tryd.prog 19 #[.string (bs k.data.toList), .string (bs f.data.toList), .string (bs t.data.toList)] W _ := fun W hW => refTurn_any k.data.toList f.data.toList t.data.toList W (by omega) (by omega) (by omega) hW
  obtain ⟨⟨a, b⟩, hq⟩ : ∃ q, q = turn k.data.toList f.data.toList t.data.toList := ⟨_, rfl⟩
  rw [← bs_of, ← bs_of, ← bs_of, ← hq] at c1 c2
  unfold strNum at c1 c2
  obtain ⟨s, hs⟩ : ∃ s, s = bs a := ⟨_, rfl⟩
  simp only [← hs] at c1 c2
  have HC := Lib.hid c1
  have HD := Lib.hid c2
  have hss : (s.toList == s.toList) = true := by simp
  have hbb : (((b : Nat) : Int) == (b : Int)) = true := by simp
  clear c1 c2 hq hs
  go_enter Tryd.func8, Tryd.ntmps8
  go_wp2_with fail
  ((with_reducible refine (HC.out _ hT).mono ?_); rintro e w1 ⟨rfl, b1⟩)
  go_wp2_with fail
  ((with_reducible refine (HD.out _ (tabs_below hT b1)).mono ?_); rintro e w2 ⟨rfl, b2⟩)
  have k2 := bthen b1 b2
  go_wp2_with fail
  ((with_reducible refine (keysKnown_any _ (tabs_below hT k2)).mono ?_); rintro e w3 ⟨rfl, b3⟩)
  have k3 := bthen k2 b3
  go_wp2
  go_ret
  exact ⟨rfl, k3⟩

set_option maxHeartbeats 1000000 in
theorem keysPrefix_walk (p k : ByteArray) (w : World) (hT : Tabs w) (_hp : p.size ≤ 140737488351232) (_hk : k.size ≤ 140737488351232) :
    Calls Tryd.prog 5 #[.string p, .string k] w fun e w' => e = .returned (.bool true) ∧ Below w.heap.size w w' := by
  have hl : p.data.toList.length ≤ 140737488351232 := by rw [← Lib.size_eq]; exact _hp
  obtain ⟨P, hP⟩ : ∃ P, P = p.data.toList := ⟨_, rfl⟩
  obtain ⟨K, hK⟩ : ∃ K, K = k.data.toList := ⟨_, rfl⟩
  have hpb : p = bs P := by rw [hP]; exact bs_of p
  have hkb : k = bs K := by rw [hK]; exact bs_of k
  rw [← hP] at hl
  have c1 := end_any P w (by omega)
  have c2 : ∀ W, Calls Tryd.prog 15 #[.string (bs K), .string (bs P)] W _ := fun W => begins_any K P W
  have hw := prefix_within P K
  obtain ⟨⟨a, b⟩, hq⟩ : ∃ q, q = endL P := ⟨_, rfl⟩
  rw [← hq] at c1 hw
  have c3 : ∀ W, Calls Tryd.prog 16 #[.string (bs K), .string (bs P), .string (bs a), .bool (!b)] W _ := fun W => within_any K P a (!b) W
  rw [hw] at c3
  unfold strBool at c1
  obtain ⟨s, hs⟩ : ∃ s, s = bs a := ⟨_, rfl⟩
  have hbeg : hasPrefix K P = (decide (p.size ≤ k.size) && ((k.extract 0 p.size).toList == p.toList)) := by
    rw [← Lib.hasPrefix_of_take, hpb, hkb, bs_take, bs_toList, bs_toList, bs_size, bs_size]
  simp only [← hs, ← hpb, ← hkb] at c1 c2 c3
  obtain ⟨q, hq2⟩ : ∃ q, q = hasPrefix K P := ⟨_, rfl⟩
  rw [← hq2] at c2 c3 hbeg
  have HC := Lib.hid c1
  have HD := Lib.hid c2
  have HE := Lib.hid c3
  have hqq : (q == q) = true := by simp
  clear c1 c2 c3 hq hs hpb hkb hP hK hl hw hq2
  go_enter Tryd.func5, Tryd.ntmps5
  go_wp2_with fail
  ((with_reducible refine HC.out.mono ?_); rintro e w1 ⟨rfl, b1⟩)
  by_cases hle : p.size ≤ k.size
  · obtain ⟨x, hx⟩ : ∃ x, x = ((k.extract 0 p.size).toList == p.toList) := ⟨_, rfl⟩
    rw [decide_eq_true hle, Bool.true_and, ← hx] at hbeg
    have hle1 : (p.size : Int) ≤ (k.size : Int) := by omega
    have hx2 := hx.symm
    subst hbeg
    clear hx
    go_wp2_with fail
    ((with_reducible refine (HD.out _).mono ?_); rintro e w2 ⟨rfl, rfl⟩)
    go_wp2_with fail
    ((with_reducible refine (HE.out _).mono ?_); rintro e w3 ⟨rfl, rfl⟩)
    go_wp2_with fail
    ((with_reducible refine (keysKnown_any _ (tabs_below hT b1)).mono ?_); rintro e w4 ⟨rfl, b4⟩)
    have k4 := bthen b1 b4
    go_wp2
    go_ret
    exact ⟨rfl, k4⟩
  · rw [decide_eq_false hle, Bool.false_and] at hbeg
    subst hbeg
    go_wp2_with fail
    ((with_reducible refine (HD.out _).mono ?_); rintro e w2 ⟨rfl, rfl⟩)
    go_wp2_with fail
    ((with_reducible refine (HE.out _).mono ?_); rintro e w3 ⟨rfl, rfl⟩)
    go_wp2_with fail
    ((with_reducible refine (keysKnown_any _ (tabs_below hT b1)).mono ?_); rintro e w4 ⟨rfl, b4⟩)
    have k4 := bthen b1 b4
    go_wp2
    go_ret
    exact ⟨rfl, k4⟩
end Go.Proofs.YtddncmbibkibeaaDoor
