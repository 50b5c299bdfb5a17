import Derived.Test.YtgeefnmgejnemaaDoorUtfKnown
import Derived.Test.YtgeefnmgejnemaaDoorUtfRefUnq
namespace Go.Proofs.YtgeefnmgejnemaaDoor
open Go.RowKit Go.Shelf Utf
open Go.Lib (encodeRune validD)
set_option linter.unusedSimpArgs false
set_option linter.unusedVariables false
set_option maxRecDepth 100000 in
set_option maxHeartbeats 2000000 in
theorem utfReads_walk (s : ByteArray) (a : Int) (w : World) (hT : Tabs w) (hk : s.size ≤ 140737488351232) (_ha : -9223372036854775808 ≤ a) (_hb : a ≤ 9223372036854775807) :
    Calls Tryd.prog 6 #[.string s, .int .i64 a] w fun e w' => e = .returned (.bool true) ∧ Below w.heap.size w w' := by
  have hs : s = bs s.data.toList := bs_of s
  have hl : s.data.toList.length ≤ 140737488351232 := by rw [← Lib.size_eq]; exact hk
  have c1 := unquote_any s.data.toList a w hl hT
  have c2 := fun V => refUnq_any s.data.toList a V hl
  rw [← hs] at c1
  simp only [← hs] at c2
  obtain ⟨⟨o, n, e⟩, hP⟩ : ∃ P, unquoteL s.data.toList a = P := ⟨_, rfl⟩
  rw [hP] at c1
  simp only [hP] at c2
  unfold Unq at c1 c2
  simp only at c1 c2
  have HC := Lib.hid c1
  have HD := Lib.hid c2
  have HK := Lib.hid known_any
  have HT := Lib.hid hT
  have e1 : ((bs o).toList == (bs o).toList) = true := by simp
  have e2 : (n == n) = true := by simp
  have e3 : ((e : Int) == (e : Int)) = true := by simp
  generalize bs o = y at *
  clear c1 c2 hP hs hl hT
  go_enter Tryd.func6, Tryd.ntmps6
  go_wp2_with fail
  ((with_reducible refine HC.out.mono ?_); rintro e w1 ⟨rfl, b1⟩)
  go_wp2_with fail
  ((with_reducible refine (HD.out _).mono ?_); rintro e w2 ⟨rfl, b2⟩)
  have k2 := bthen b1 b2
  go_wp2_with fail
  ((with_reducible refine (HK.out _ (tabs_below HT.out k2)).mono ?_); rintro e w3 ⟨rfl, b3⟩)
  have k3 := bthen k2 b3
  go_wp2
  go_ret
  exact ⟨rfl, k3⟩
set_option maxRecDepth 100000 in
set_option maxHeartbeats 2000000 in
theorem utfQuotes_walk (s : ByteArray) (w : World) (hT : Tabs w) (_h : s.size ≤ 140737488351232) (hk : s.size ≤ 1048576) :
    Calls Tryd.prog 5 #[.string s] w fun e w' => e = .returned (.bool true) ∧ Below w.heap.size w w' := by
  have hs : s = bs s.data.toList := bs_of s
  have hl : s.data.toList.length ≤ 1099511627776 := by rw [← Lib.size_eq]; omega
  have c1 := quote_any s.data.toList w hl hT
  have c2 := fun V => refQuote_any s.data.toList V hl
  unfold Quoted at c1
  unfold Quoted2 at c2
  rw [← hs] at c1
  simp only [← hs] at c2
  obtain ⟨⟨o, e⟩, hP⟩ : ∃ P, quoteL s.data.toList = P := ⟨_, rfl⟩
  rw [hP] at c1
  simp only [hP] at c2
  simp only at c1 c2
  have HC := Lib.hid c1
  have HD := Lib.hid c2
  have HK := Lib.hid known_any
  have HT := Lib.hid hT
  have e1 : ((bs o).toList == (bs o).toList) = true := by simp
  have e3 : ((e : Int) == (e : Int)) = true := by simp
  generalize bs o = y at *
  clear c1 c2 hP hs hl hT
  go_enter Tryd.func5, Tryd.ntmps5
  go_wp2_with fail
  ((with_reducible refine HC.out.mono ?_); rintro e w1 ⟨rfl, b1⟩)
  go_wp2_with fail
  ((with_reducible refine (HD.out _).mono ?_); rintro e w2 ⟨rfl, b2⟩)
  have k2 := bthen b1 b2
  go_wp2_with fail
  ((with_reducible refine (HK.out _ (tabs_below HT.out k2)).mono ?_); rintro e w3 ⟨rfl, b3⟩)
  have k3 := bthen k2 b3
  go_wp2
  go_ret
  exact ⟨rfl, k3⟩
end Go.Proofs.YtgeefnmgejnemaaDoor
