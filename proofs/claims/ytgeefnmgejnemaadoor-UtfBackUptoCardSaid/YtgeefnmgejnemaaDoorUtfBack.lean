import Derived.Test.YtgeefnmgejnemaaDoorUtfBack0
import Derived.Test.YtgeefnmgejnemaaDoorUtfKnown
namespace Go.Proofs.YtgeefnmgejnemaaDoor
open Go.RowKit Go.Shelf Utf
open Go.Lib (encodeRune validD)
set_option linter.unusedSimpArgs false
set_option linter.unusedVariables false
theorem bs_app3 (a b c : ByteArray) : a ++ b ++ c = bs (a.data.toList ++ (b.data.toList ++ c.data.toList)) := by
  rw [← List.append_assoc, ← bs_append, ← bs_append, ← bs_of, ← bs_of, ← bs_of]
theorem quoteL_len (s : List UInt8) : (quoteL s).1.length ≤ 6 * s.length + 2 := by
  unfold quoteL
  split
  · have h1 := quoteOf_len (runesL s)
    have h2 := runesL_length s
    simp only [List.length_cons, List.length_append, List.length_nil]
    omega
  · simp
theorem unquote_s (s : ByteArray) (a : Int) (V : World) (hT : Tabs V) (hs : s.size ≤ 140737488351232) {o : List UInt8} {p : Int} {e : Nat} (h : unquoteL s.data.toList a = (o, p, e)) :
    Calls Tryd.prog 17 #[.string s, .int .i64 a] V fun x V' => x = .returned (.tuple #[.string (bs o), .int .i64 p, .int .i64 (e : Int)]) ∧ Below V.heap.size V V' := by
  have := unquote_any s.data.toList a V (by rw [← Lib.size_eq]; exact hs) hT
  rw [h, ← bs_of] at this
  exact this
theorem quote_s (s : ByteArray) (V : World) (hT : Tabs V) (hs : s.size ≤ 1099511627776) (hv : validD s.data.toList = true) :
    Calls Tryd.prog 15 #[.string s] V fun x V' => x = .returned (.tuple #[.string (bs (quoteL s.data.toList).1), .int .i64 0]) ∧ Below V.heap.size V V' := by
  have := quote_any s.data.toList V (by rw [← Lib.size_eq]; exact hs) hT
  unfold Quoted at this
  rw [← bs_of, (quote_back s.data.toList [] [] hv).2] at this
  exact this
set_option maxRecDepth 100000 in
set_option maxHeartbeats 4000000 in
theorem utfBack_walk (s a b : ByteArray) (w : World) (hT : Tabs w) (_h0 : s.size ≤ 140737488351232) (_h1 : a.size ≤ 140737488351232) (_h2 : b.size ≤ 140737488351232) (hk : s.size + a.size + b.size ≤ 1048576) :
    Calls Tryd.prog 7 #[.string s, .string a, .string b] w fun e w' => e = .returned (.bool true) ∧ Below w.heap.size w w' := by
  have HK := Lib.hid known_any
  have HT := Lib.hid hT
  have c0 := fun V => refValid_any s V (by omega)
  obtain ⟨v, hv⟩ : ∃ v, validD s.data.toList = v := ⟨_, rfl⟩
  simp only [hv] at c0
  have HV : Hid (∀ V, Calls Tryd.prog 10 #[.string s] V fun e w' => e = .returned (.bool v) ∧ V = w') := fun V => (c0 V).mono fun _ _ h => ⟨h.1, h.2.symm⟩
  clear c0 hT _h0 _h1 _h2
  cases v
  · clear hv
    go_enter Tryd.func7, Tryd.ntmps7
    go_wp2_with fail
    ((with_reducible refine (HV.out _).mono ?_); rintro e w1 ⟨rfl, rfl⟩)
    go_wp2_with fail
    ((with_reducible refine (HK.out _ HT.out).mono ?_); rintro e w3 ⟨rfl, b3⟩)
    go_wp2
    go_ret
    exact ⟨rfl, b3⟩
  · have hq := quote_back s.data.toList a.data.toList b.data.toList hv
    obtain ⟨Q, hQ⟩ : ∃ Q, (quoteL s.data.toList).1 = Q := ⟨_, rfl⟩
    have hQl := quoteL_len s.data.toList
    have hQg := quote_ge s.data.toList
    have c1 := fun V hV => quote_s s V hV (by omega) hv
    rw [hQ] at hq hQl hQg
    simp only [hQ] at c1
    obtain ⟨y, hy⟩ : ∃ y, y = bs Q := ⟨_, rfl⟩
    have hyd : y.data.toList = Q := by rw [hy]; rfl
    have hys : y.size = Q.length := by rw [hy, bs_size]
    have hyb : y.size ≤ 6291458 := by rw [← Lib.size_eq] at hQl; omega
    have c2 := fun V hV => unquote_s (a ++ y ++ b) (a.size : Int) V hV (by rw [ByteArray.size_append, ByteArray.size_append]; omega) (o := s.data.toList) (p := (a.size : Int) + (y.size : Int)) (e := 0) (by
      rw [bs_app3, bs_data, hyd, hys, Lib.size_eq a]; exact hq.1)
    have hYG : ∀ (j : Nat) (h : j < y.size), ∃ c : Nat, ((y[j]'h).toNat : Int) = (c : Int) ∧ 32 ≤ c := fun j h => by
      refine ⟨(y[j]'h).toNat, rfl, hQg _ ?_⟩
      rw [← hyd]
      exact Array.mem_toList_iff.2 (Array.getElem_mem ..)
    rw [← bs_of] at c2
    simp only [← hy] at c1
    have HC1 := Lib.hid c1
    have HC2 := Lib.hid c2
    have HYG := Lib.hid hYG
    obtain ⟨⟨U, P, G⟩, hU⟩ : ∃ P, unquoteL b.data.toList 0 = P := ⟨_, rfl⟩
    have c3 := fun V hV => unquote_s b 0 V hV (by omega) hU
    have sa : a.size ≤ 1048576 := by omega
    have sb : b.size ≤ 1048576 := by omega
    by_cases hG : G = 0
    · subst hG
      have hUv := unquote_valid hU
      have hUl : U.length ≤ 1048576 := by have := unquote_len hU; rw [← Lib.size_eq] at this; omega
      have c4 := fun V hV => quote_s (bs U) V hV (by rw [bs_size]; omega) (by rw [bs_data]; exact hUv)
      rw [bs_data] at c4
      have hq2 := quote_back U [] [] hUv
      obtain ⟨Z, hZ⟩ : ∃ Z, (quoteL U).1 = Z := ⟨_, rfl⟩
      have hZl := quoteL_len U
      rw [hZ] at hq2 hZl
      simp only [hZ] at c4
      obtain ⟨z, hz⟩ : ∃ z, z = bs Z := ⟨_, rfl⟩
      have c5 := fun V hV => unquote_s z 0 V hV (by rw [hz, bs_size]; omega) (o := U) (p := (z.size : Int)) (e := 0) (by
        have := hq2.1
        rw [hz, bs_data, bs_size]
        simpa using this)
      simp only [← hz] at c4
      obtain ⟨x, hx⟩ : ∃ x, x = bs U := ⟨_, rfl⟩
      simp only [← hx] at c3 c4 c5
      have HC3 := Lib.hid c3
      have HC4 := Lib.hid c4
      have HC5 := Lib.hid c5
      have e1 : (s.toList != s.toList) = false := by simp
      have e2 : (x.toList == x.toList) = true := by simp
      clear c1 c2 c3 c4 c5 hx hz hZl hq2 hZ hUl hUv hU hYG hys hyd hy hQ hQl hQg hq hk hv
      go_enter Tryd.func7, Tryd.ntmps7
      go_wp2_with fail
      ((with_reducible refine (HV.out _).mono ?_); rintro e w1 ⟨rfl, rfl⟩)
      go_wp2_with fail
      ((with_reducible refine (HC1.out _ HT.out).mono ?_); rintro e w1 ⟨rfl, b1⟩)
      go_wp2_with fail
      ((with_reducible refine (HC2.out _ (tabs_below HT.out b1)).mono ?_); rintro e w2 ⟨rfl, b2⟩)
      have k2 := bthen b1 b2
      go_wp2
      go_loop [12] (fun i => ∃ k : Nat, k ≤ y.size ∧ i = .int .i64 k) (fun i => y.size - (intOf i).toNat)
      case atStart => exact ⟨0, Nat.zero_le _, rfl⟩
      case round =>
        obtain ⟨k, hk, rfl⟩ := hrel
        by_cases hlt : k < y.size
        · obtain ⟨c, hc, hc32⟩ := HYG.out k hlt
          have hc' : ¬ (c : Int) < 32 := by omega
          clear hc32
          go_wp2
          go_round
          case rel => exact ⟨k + 1, by omega, by go_num⟩
          case measure => simp [intOf]; omega
        · go_wp2_with fail
          ((with_reducible refine (HC3.out _ (tabs_below HT.out k2)).mono ?_); rintro e w3 ⟨rfl, b3⟩)
          have k3 := bthen k2 b3
          go_wp2_with fail
          ((with_reducible refine (HC4.out _ (tabs_below HT.out k3)).mono ?_); rintro e w4 ⟨rfl, b4⟩)
          have k4 := bthen k3 b4
          go_wp2_with fail
          ((with_reducible refine (HC5.out _ (tabs_below HT.out k4)).mono ?_); rintro e w5 ⟨rfl, b5⟩)
          have k5 := bthen k4 b5
          go_wp2_with fail
          ((with_reducible refine (HK.out _ (tabs_below HT.out k5)).mono ?_); rintro e w6 ⟨rfl, b6⟩)
          have k6 := bthen k5 b6
          go_wp2
          go_ret
          exact ⟨rfl, k6⟩
    · have HC3 := Lib.hid c3
      have e1 : (s.toList != s.toList) = false := by simp
      have e2 : ((G : Int) != 0) = true := by rw [bne_iff_ne]; omega
      clear c1 c2 c3 hU hYG hys hyd hy hQ hQl hQg hq hk hv hG
      go_enter Tryd.func7, Tryd.ntmps7
      go_wp2_with fail
      ((with_reducible refine (HV.out _).mono ?_); rintro e w1 ⟨rfl, rfl⟩)
      go_wp2_with fail
      ((with_reducible refine (HC1.out _ HT.out).mono ?_); rintro e w1 ⟨rfl, b1⟩)
      go_wp2_with fail
      ((with_reducible refine (HC2.out _ (tabs_below HT.out b1)).mono ?_); rintro e w2 ⟨rfl, b2⟩)
      have k2 := bthen b1 b2
      go_wp2
      go_loop [12] (fun i => ∃ k : Nat, k ≤ y.size ∧ i = .int .i64 k) (fun i => y.size - (intOf i).toNat)
      case atStart => exact ⟨0, Nat.zero_le _, rfl⟩
      case round =>
        obtain ⟨k, hk, rfl⟩ := hrel
        by_cases hlt : k < y.size
        · obtain ⟨c, hc, hc32⟩ := HYG.out k hlt
          have hc' : ¬ (c : Int) < 32 := by omega
          clear hc32
          go_wp2
          go_round
          case rel => exact ⟨k + 1, by omega, by go_num⟩
          case measure => simp [intOf]; omega
        · go_wp2_with fail
          ((with_reducible refine (HC3.out _ (tabs_below HT.out k2)).mono ?_); rintro e w3 ⟨rfl, b3⟩)
          have k3 := bthen k2 b3
          go_wp2_with fail
          ((with_reducible refine (HK.out _ (tabs_below HT.out k3)).mono ?_); rintro e w6 ⟨rfl, b6⟩)
          have k6 := bthen k3 b6
          go_wp2
          go_ret
          exact ⟨rfl, k6⟩
end Go.Proofs.YtgeefnmgejnemaaDoor
