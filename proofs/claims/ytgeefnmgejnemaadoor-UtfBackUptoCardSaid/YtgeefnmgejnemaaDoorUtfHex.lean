import Derived.Test.YtgeefnmgejnemaaDoorUtfFour
namespace Go.Proofs.YtgeefnmgejnemaaDoor
open Go.RowKit Go.Shelf Utf
set_option linter.unusedSimpArgs false
set_option linter.unusedVariables false
namespace Utf
def hexZ : Option Nat → Int
  | some n => (n : Int)
  | none => -1
end Utf
set_option maxRecDepth 100000 in
set_option maxHeartbeats 2000000 in
theorem hex_far (s : ByteArray) (k : Nat) (w : World) (hs : s.size ≤ 140737488351232) (hk : k ≤ 562949953421312) (h : s.size < k + 6) :
    Calls Tryd.prog 35 #[.string s, .int .i64 (k : Int)] w fun e w' => e = .returned (.int .i64 (hexZ none)) ∧ w' = w := by
  have h' : (s.size : Int) < (k : Int) + 6 := by omega
  go_enter Tryd.func35, Tryd.ntmps35
  go_wp2
  go_ret
  exact ⟨rfl, rfl⟩
set_option maxRecDepth 100000 in
set_option maxHeartbeats 2000000 in
theorem hex_b0 (s : ByteArray) (k : Nat) (w : World) (hs : s.size ≤ 140737488351232) (h : k + 6 ≤ s.size) (k0 : k < s.size) (a : Int) (g0 : ((s[k]'k0).toNat : Int) = a) (h1' : (a == 92) = false) :
    Calls Tryd.prog 35 #[.string s, .int .i64 (k : Int)] w fun e w' => e = .returned (.int .i64 (hexZ none)) ∧ w' = w := by
  have h' : ¬ (s.size : Int) < (k : Int) + 6 := by omega
  go_enter Tryd.func35, Tryd.ntmps35
  go_wp2
  go_ret
  exact ⟨rfl, rfl⟩
set_option maxRecDepth 100000 in
set_option maxHeartbeats 2000000 in
theorem hex_b1 (s : ByteArray) (k : Nat) (w : World) (hs : s.size ≤ 140737488351232) (h : k + 6 ≤ s.size) (k0 : k < s.size) (k1 : k + 1 < s.size) (g0 : ((s[k]'k0).toNat : Int) = 92) (a : Int) (g1 : ((s[k + 1]'k1).toNat : Int) = a) (h1' : (a == 117) = false) :
    Calls Tryd.prog 35 #[.string s, .int .i64 (k : Int)] w fun e w' => e = .returned (.int .i64 (hexZ none)) ∧ w' = w := by
  have h' : ¬ (s.size : Int) < (k : Int) + 6 := by omega
  go_enter Tryd.func35, Tryd.ntmps35
  go_wp2
  go_ret
  exact ⟨rfl, rfl⟩
set_option maxRecDepth 100000 in
set_option maxHeartbeats 4000000 in
theorem hex_go (ds : List UInt8) (s : ByteArray) (k : Nat) (w : World) (hs : s.size ≤ 140737488351232) (h : k + 6 ≤ s.size) (k0 : k < s.size) (k1 : k + 1 < s.size) (g0 : ((s[k]'k0).toNat : Int) = 92) (g1 : ((s[k + 1]'k1).toNat : Int) = 117) (hd4 : ds.length = 4)
    (hg : ∀ (j : Nat) (h : k + (j + 2) < s.size), j < 4 → ((s[k + (j + 2)]'h).toNat : Int) = ((ds.getD j 0).toNat : Int)) :
    Calls Tryd.prog 35 #[.string s, .int .i64 (k : Int)] w fun e w' => e = .returned (.int .i64 (hexZ (hexFold 0 ds))) ∧ w' = w := by
  have h' : ¬ (s.size : Int) < (k : Int) + 6 := by omega
  have HG := Lib.hid hg
  clear hg
  go_enter Tryd.func35, Tryd.ntmps35
  go_wp2
  go_loopw [5, 6] (fun nv iv wr => wr = w ∧ ∃ j acc : Nat, j ≤ 4 ∧ iv = .int .i64 ((j + 2 : Nat) : Int) ∧ nv = .int .i64 acc ∧ Hid (hexFold 0 ds = hexFold acc (ds.drop j)) ∧ Hid ((j = 0 ∧ acc < 1) ∨ (j = 1 ∧ acc < 16) ∨ (j = 2 ∧ acc < 256) ∨ (j = 3 ∧ acc < 4096) ∨ (j = 4 ∧ acc < 65536)))
    (fun nv iv _ => 6 - (intOf iv).toNat)
  case atStart => exact ⟨rfl, 0, 0, by omega, rfl, rfl, rfl, .inl ⟨rfl, by omega⟩⟩
  case round =>
    obtain ⟨rfl, j, acc, hj, rfl, rfl, HI, HB⟩ := hrel
    by_cases hlt : j < 4
    · obtain ⟨c, hc⟩ : ∃ c, c = (ds.getD j 0).toNat := ⟨_, rfl⟩
      have hk2 : k + (j + 2) < s.size := by omega
      have g := HG.out j hk2 hlt
      rw [← hc] at g
      have hst : ds.drop j = ds.getD j 0 :: ds.drop (j + 1) := by
        rw [List.getD_eq_getElem?_getD, List.getElem?_eq_getElem (show j < ds.length by omega)]
        exact List.drop_eq_getElem_cons (by omega)
      have hI := HI.out
      rw [hst] at hI
      have hlt' : (j : Int) + 2 < 6 := by omega
      have hc8 : c < 256 := by rw [hc]; exact (ds.getD j 0).toNat_lt
      have ha4 : acc < 4096 := by have := HB.out; omega
      have ha4' : (acc : Int) < 4096 := by omega
      by_cases c1 : 48 ≤ c ∧ c ≤ 57
      · have hd : hexD c = some (c - 48) := by unfold hexD; rw [if_pos c1]
        have hN : hexFold 0 ds = hexFold (acc * 16 + (c - 48)) (ds.drop (j + 1)) := by
          rw [hI, hexFold, ← hc, hd]
        have HN := Lib.hid hN
        have e1 : (48 : Int) ≤ c := by omega
        have e2 : (c : Int) < 58 := by omega
        clear hN hI hst hd hc HI
        go_wp2
        refine ⟨⟨trivial, j + 1, acc * 16 + (c - 48), by omega, ?_, ?_, HN, hex_room HB.out hlt (by omega)⟩, by simp [intOf]; omega⟩
        · go_num
        · congr 1; omega
      by_cases c2 : 97 ≤ c ∧ c ≤ 102
      · have hd : hexD c = some (c - 87) := by unfold hexD; rw [if_neg c1, if_pos c2]
        have hN : hexFold 0 ds = hexFold (acc * 16 + (c - 87)) (ds.drop (j + 1)) := by
          rw [hI, hexFold, ← hc, hd]
        have HN := Lib.hid hN
        have e1 : (97 : Int) ≤ c := by omega
        have e2 : (c : Int) < 103 := by omega
        have e3 : ¬ (c : Int) < 58 := by omega
        have e4 : (48 : Int) ≤ c := by omega
        clear hN hI hst hd hc HI
        go_wp2
        refine ⟨⟨trivial, j + 1, acc * 16 + (c - 87), by omega, ?_, ?_, HN, hex_room HB.out hlt (by omega)⟩, by simp [intOf]; omega⟩
        · go_num
        · congr 1; omega
      by_cases c3 : 65 ≤ c ∧ c ≤ 70
      · have hd : hexD c = some (c - 55) := by unfold hexD; rw [if_neg c1, if_neg c2, if_pos c3]
        have hN : hexFold 0 ds = hexFold (acc * 16 + (c - 55)) (ds.drop (j + 1)) := by
          rw [hI, hexFold, ← hc, hd]
        have HN := Lib.hid hN
        have e1 : (65 : Int) ≤ c := by omega
        have e2 : (c : Int) < 71 := by omega
        have e3 : ¬ (c : Int) < 58 := by omega
        have e4 : (48 : Int) ≤ c := by omega
        have e5 : ¬ (97 : Int) ≤ c := by omega
        clear hN hI hst hd hc HI
        go_wp2
        refine ⟨⟨trivial, j + 1, acc * 16 + (c - 55), by omega, ?_, ?_, HN, hex_room HB.out hlt (by omega)⟩, by simp [intOf]; omega⟩
        · go_num
        · congr 1; omega
      · have hd : hexD c = none := by unfold hexD; rw [if_neg c1, if_neg c2, if_neg c3]
        have hN : hexFold 0 ds = none := by rw [hI, hexFold, ← hc, hd]
        have HN := Lib.hid hN
        clear hN hI hst hd hc HI
        by_cases d1 : c < 48
        · have e1 : ¬ (48 : Int) ≤ c := by omega
          have e2 : ¬ (97 : Int) ≤ c := by omega
          have e3 : ¬ (65 : Int) ≤ c := by omega
          clear c1 c2 c3
          go_wp2
          go_ret
          exact ⟨by rw [HN.out]; rfl, rfl⟩
        · have e0 : (48 : Int) ≤ c := by omega
          have e0' : ¬ (c : Int) < 58 := by omega
          by_cases d2 : c < 65
          · have e2 : ¬ (97 : Int) ≤ c := by omega
            have e3 : ¬ (65 : Int) ≤ c := by omega
            clear c1 c2 c3
            go_wp2
            go_ret
            exact ⟨by rw [HN.out]; rfl, rfl⟩
          · have e3 : (65 : Int) ≤ c := by omega
            have e3' : ¬ (c : Int) < 71 := by omega
            by_cases d3 : c < 97
            · have e2 : ¬ (97 : Int) ≤ c := by omega
              clear c1 c2 c3
              go_wp2
              go_ret
              exact ⟨by rw [HN.out]; rfl, rfl⟩
            · have e2 : (97 : Int) ≤ c := by omega
              have e2' : ¬ (c : Int) < 103 := by omega
              clear c1 c2 c3
              go_wp2
              go_ret
              exact ⟨by rw [HN.out]; rfl, rfl⟩
    · have hlt' : ¬ (j : Int) + 2 < 6 := by omega
      have hN : hexFold 0 ds = some acc := by
        rw [HI.out, List.drop_eq_nil_of_le (by omega)]; rfl
      have HN := Lib.hid hN
      clear hN HI
      go_wp2
      go_ret
      exact ⟨by rw [HN.out]; rfl, rfl⟩
end Go.Proofs.YtgeefnmgejnemaaDoor
