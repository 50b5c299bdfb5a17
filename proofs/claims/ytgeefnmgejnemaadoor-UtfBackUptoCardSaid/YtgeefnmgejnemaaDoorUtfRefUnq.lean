import Derived.Test.YtgeefnmgejnemaaDoorUtfRefQuote
import Derived.Test.YtgeefnmgejnemaaDoorUtfHex2
import Derived.Test.YtgeefnmgejnemaaDoorUtfUnqGo
namespace Go.Proofs.YtgeefnmgejnemaaDoor
open Go.RowKit Go.Shelf Utf
open Go.Lib (encodeRune validD)
set_option linter.unusedSimpArgs false
set_option linter.unusedVariables false
namespace Utf
/-- None of the first letters is this one. -/
def NoLetter (c k : Nat) : Prop := ∀ j, j < k → (lettersL.getD j 0).toNat ≠ c
theorem NoLetter.zero (c : Nat) : NoLetter c 0 := fun j h => absurd h (by omega)
theorem NoLetter.on {c k : Nat} (h : NoLetter c k) (hk : (lettersL.getD k 0).toNat ≠ c) : NoLetter c (k + 1) := fun j hj => by
  by_cases e : j = k
  · subst e; exact hk
  · exact h j (by omega)
theorem unEsc_hit {c k : Nat} (hk : k < 8) (h : (lettersL.getD k 0).toNat = c) : unEsc c = some (codeL.getD k 0) := by
  have : k = 0 ∨ k = 1 ∨ k = 2 ∨ k = 3 ∨ k = 4 ∨ k = 5 ∨ k = 6 ∨ k = 7 := by omega
  subst h
  rcases this with rfl | rfl | rfl | rfl | rfl | rfl | rfl | rfl <;> decide
theorem unEsc_miss {c : Nat} (h : NoLetter c 8) : unEsc c = none := by
  have h0 := h 0 (by omega)
  have h1 := h 1 (by omega)
  have h2 := h 2 (by omega)
  have h3 := h 3 (by omega)
  have h4 := h 4 (by omega)
  have h5 := h 5 (by omega)
  have h6 := h 6 (by omega)
  have h7 := h 7 (by omega)
  simp [lettersL] at h0 h1 h2 h3 h4 h5 h6 h7
  unfold unEsc
  rw [if_neg (by omega), if_neg (by omega), if_neg (by omega), if_neg (by omega), if_neg (by omega), if_neg (by omega), if_neg (by omega), if_neg (by omega)]
theorem fourL_u {l : List UInt8} {n : Nat} (h : fourL l = some n) : ¬ l.length < 2 ∧ unEsc (l.getD 1 0).toNat = none := by
  by_cases hb : l.length < 6 ∨ (l.getD 0 0).toNat ≠ 92 ∨ (l.getD 1 0).toNat ≠ 117
  · rw [fourL_bad hb] at h; cases h
  · refine ⟨by omega, ?_⟩
    have : (l.getD 1 0).toNat = 117 := by omega
    rw [this]; decide
theorem escapeL_one {l : List UInt8} {n : Nat} (h : fourL l = some n) (hn : n < 55296 ∨ 57343 < n) : escapeL l = (n, 6, 0) := by
  obtain ⟨h1, h2⟩ := fourL_u h
  unfold escapeL
  rw [if_neg h1, h2]
  simp only [h]
  rw [if_pos hn]
theorem escapeL_half {l : List UInt8} {n : Nat} (h : fourL l = some n) (hn : ¬ (n < 55296 ∨ 57343 < n)) (hm : fourL (l.drop 6) = none ∨ ∃ m, fourL (l.drop 6) = some m ∧ (56320 ≤ n ∨ m < 56320 ∨ 57343 < m)) : escapeL l = (0, 0, 3) := by
  obtain ⟨h1, h2⟩ := fourL_u h
  unfold escapeL
  rw [if_neg h1, h2]
  simp only [h]
  rw [if_neg hn]
  rcases hm with hm | ⟨m, hm, hc⟩
  · rw [hm]
  · rw [hm]
    simp only
    rw [if_pos hc]
theorem escapeL_pair {l : List UInt8} {n m : Nat} (h : fourL l = some n) (hn : ¬ (n < 55296 ∨ 57343 < n)) (hm : fourL (l.drop 6) = some m) (hc : ¬ (56320 ≤ n ∨ m < 56320 ∨ 57343 < m)) : escapeL l = (65536 + 1024 * (n - 55296) + m - 56320, 12, 0) := by
  obtain ⟨h1, h2⟩ := fourL_u h
  unfold escapeL
  rw [if_neg h1, h2]
  simp only [h]
  rw [if_neg hn, hm]
  simp only
  rw [if_neg hc]
theorem escapeL_let {l : List UInt8} {r : Nat} (h1 : ¬ l.length < 2) (h : unEsc (l.getD 1 0).toNat = some r) : escapeL l = (r, 2, 0) := by
  unfold escapeL
  rw [if_neg h1, h]
theorem escapeL_no {l : List UInt8} (h : fourL l = none) (h1 : l.length < 2 ∨ unEsc (l.getD 1 0).toNat = none) : escapeL l = (0, 0, 4) := by
  unfold escapeL
  by_cases h2 : l.length < 2
  · rw [if_pos h2]
  · rw [if_neg h2, h1.resolve_left h2, h]
end Utf
set_option maxRecDepth 100000 in
set_option maxHeartbeats 16000000 in
theorem refUnq_go (l : List UInt8) (a : Nat) (w : World) (hs : l.length ≤ 140737488351232) (k0 : a < l.length) (hc : (l.getD a 0).toNat = 34) :
    Calls Tryd.prog 18 #[.string (bs l), .int .i64 (a : Int)] w (Unq w ((unqGo l (a + 1) []).1, ((unqGo l (a + 1) []).2.1 : Int), (unqGo l (a + 1) []).2.2)) := by
  obtain ⟨P, hP⟩ : ∃ P, unqGo l (a + 1) [] = P := ⟨_, rfl⟩
  rw [hP]
  have HF : Hid (∀ (out : List UInt8) (k e : Nat) (w' : World), P = (out, k, e) → Below w.heap.size w w' → Unq w (P.1, (P.2.1 : Int), P.2.2) (.returned (.tuple #[.string (bs out), .int .i64 (k : Int), .int .i64 (e : Int)])) w') := fun out k e w' h hb => by
    subst h; exact ⟨rfl, hb⟩
  obtain ⟨s, hs1, hsz, hsg⟩ := str_nm l
  have HX : Hid (∀ (k : Nat) V, k ≤ 562949953421312 → Calls Tryd.prog 35 #[.string s, .int .i64 (k : Int)] V fun e w' => e = .returned (.int .i64 (hexZ (fourL (l.drop k)))) ∧ V = w') :=
    fun k V hk => by rw [hs1]; exact (refHex_any l k V hs hk).mono fun _ _ h => ⟨h.1, h.2.symm⟩
  have HA : Hid (∀ (k : Nat) V, k ≤ l.length → Calls Tryd.prog 22 #[.string s, .int .i64 (k : Int)] V fun e w' => e = .returned (tupN (at1 (l.drop k))) ∧ V = w') :=
    fun k V hk => by rw [hs1]; exact (refAt_any (bs l) k V (by rw [bs_size]; omega) (by rw [bs_size]; omega)).mono fun _ _ h => ⟨h.1, h.2.symm⟩
  have hk0 : a < s.size := by omega
  have g0 := hsg a hk0
  rw [hc] at g0
  have HG : Hid (∀ (j : Nat) (h : j < s.size), ((s[j]'h).toNat : Int) = ((l.getD j 0).toNat : Int)) := hsg
  have HP0 := Lib.hid hP
  have HZ : Hid (s.size = l.length) := hsz
  have hs2 : s.size ≤ 140737488351232 := by omega
  rw [← hs1]
  have h1 : ¬ (a : Int) < 0 := by omega
  have h2 : ¬ (s.size : Int) < (a : Int) := by omega
  have h4 : ((a : Int) == (s.size : Int)) = false := by rw [beq_eq_false_iff_ne]; omega
  have HB0 := Lib.hid (Below.refl w.heap.size w)
  clear hP hs1 hsg hc hsz hs k0
  go_enter Tryd.func18, Tryd.ntmps18
  go_wp2
  clear h1 h2 h4
  go_loopw [7, 8] (fun ov iv wr => ∃ (k : Nat) (out : List UInt8) (q : ByteArray), k ≤ s.size ∧ iv = .int .i64 k ∧ ov = .string q ∧ q.size ≤ 4 * k ∧ Hid (q = bs out) ∧ Hid (unqGo l k out = P) ∧ Hid (Below w.heap.size w wr))
    (fun _ iv _ => s.size - (intOf iv).toNat)
  case atStart => exact ⟨a + 1, [], _, by omega, by go_num, rfl, Nat.zero_le _, by rfl, HP0, HB0⟩
  case round =>
    obtain ⟨k, out, q, hk, rfl, rfl, hqs, HQ, HP, HB⟩ := hrel
    clear HP0 HB0 g0 hk0
    by_cases hlt : k < s.size
    · obtain ⟨c, hcn⟩ : ∃ c, c = (l.getD k 0).toNat := ⟨_, rfl⟩
      have g := HG.out k hlt
      rw [← hcn] at g
      have hst := step_at (l := l) (k := k) (by have := HZ.out; omega)
      rw [← hcn] at hst
      have hkl : k < l.length := by have := HZ.out; omega
      have hcs : ((k : Int) == (s.size : Int)) = false := by rw [beq_eq_false_iff_ne]; omega
      by_cases c34 : c = 34
      · have hp : P = (out, k + 1, 0) := by rw [← HP.out, unqGo_end hkl (by rw [← hcn]; exact c34)]
        have HPP := Lib.hid hp
        have c34' : ((c : Int) != 34) = false := by rw [c34]; rfl
        have hB := HB.out
        obtain rfl := HQ.out
        clear hp hst hcn HP
        go_wp2
        go_ret3
        exact HF.out out (k + 1) 0 _ HPP.out hB
      · have c34' : ((c : Int) != 34) = true := by rw [bne_iff_ne]; omega
        -- the two ways on
        have HBAD : Hid (∀ r n er V, stepL (l.drop k) = (r, n, er + 1) → Below w.heap.size w V → Unq w (P.1, (P.2.1 : Int), P.2.2) (.returned (.tuple #[.string (bs []), .int .i64 (k : Int), .int .i64 ((er + 1 : Nat) : Int)])) V) := fun r n er V h hV => by
          refine HF.out [] k (er + 1) V ?_ hV
          rw [← HP.out, unqGo_bad (by rw [← hcn]; omega) (by rw [h]; exact Nat.succ_ne_zero er), h]
        have HGOOD : Hid (∀ r n y, stepL (l.drop k) = (r, n, 0) → y = bs (encodeRune (r : Int)) → (k + n ≤ s.size ∧ 1 ≤ n) ∧ (q ++ y).size ≤ 4 * (k + n) ∧ Hid (q ++ y = bs (out ++ encodeRune (r : Int))) ∧ Hid (unqGo l (k + n) (out ++ encodeRune (r : Int)) = P)) := fun r n y h hy => by
          obtain ⟨hr, hn1, hn2⟩ := stepL_good (l := l.drop k) (by rw [h])
          rw [h] at hr hn1 hn2
          simp only at hr hn1 hn2
          rw [List.length_drop] at hn2
          have := HZ.out
          have h4 := encodeRune_le (r : Int)
          refine ⟨by omega, ?_, ?_, ?_⟩
          · rw [hy, ByteArray.size_append, bs_size]; omega
          · show q ++ y = _
            rw [hy, HQ.out, bs_append]
          · show _ = P
            rw [← HP.out, unqGo_on (k := k) (by rw [← hcn]; omega) (by rw [h]) (by rw [h]; simp only; omega) hkl, h]
        have HBY : Hid (∀ (r : Nat) (y : ByteArray), r ≤ 1114111 → (r < 55296 ∨ 57343 < r) → y = bs (encodeRune (r : Int)) → ∀ V, Calls Tryd.prog 20 #[.int .i64 (r : Int)] V fun e w' => e = .returned (.string y) ∧ Below V.heap.size V w') := fun r y h1 h2 h3 V => by
          rw [h3]; exact refBytes_any r V h1 h2
        have hk13 : k + 12 ≤ 140737488351300 := by omega
        by_cases c32 : c < 32
        · have hp : stepL (l.drop k) = (0, 1, 3 + 1) := by rw [hst, if_pos c32]
          have HPP := Lib.hid hp
          have c32' : (c : Int) < 32 := by omega
          clear hp hst hcn HP c32
          go_wp2
          go_ret3
          exact HBAD.out _ _ _ _ HPP.out HB.out
        · have c32' : ¬ (c : Int) < 32 := by omega
          rw [if_neg c32] at hst
          by_cases c92 : c = 92
          · have c92' : ((c : Int) != 92) = false := by rw [c92]; rfl
            rw [if_pos c92] at hst
            have hln : ¬ l.length ≤ k := by omega
            obtain ⟨f, hf⟩ : ∃ f, fourL (l.drop k) = f := ⟨_, rfl⟩
            have hE := fun V => HX.out k V (by omega)
            rw [hf] at hE
            have hdd : (l.drop k).drop 6 = l.drop (k + 6) := by rw [List.drop_drop]
            cases f with
            | some n =>
              have HE := Lib.hid hE
              obtain ⟨hnb, hl6⟩ := fourL_lt hf
              by_cases hsur : n < 55296 ∨ 57343 < n
              · have hst2 : stepL (l.drop k) = (n, 6, 0) := by rw [hst, escapeL_one hf hsur]
                obtain ⟨y, hy⟩ : ∃ y, y = bs (encodeRune (n : Int)) := ⟨_, rfl⟩
                have hys : y.size ≤ 4 := by rw [hy, bs_size]; exact encodeRune_le _
                obtain ⟨⟨j1, jn⟩, j2, J3, J4⟩ := HGOOD.out n 6 y hst2 hy
                have HW := Lib.hid (HBY.out n y (by omega) hsur hy)
                by_cases hlow : n < 55296
                · have e1 : decide ((55296 : Int) ≤ (n : Int)) = false := by rw [decide_eq_false_iff_not]; omega
                  have e0 : (0 : Int) ≤ (n : Int) := by omega
                  clear hst2 hst hcn HP c32 c92 c34 hE hf hdd hsur hy hnb hl6 hlow hln
                  go_wp2_with fail
                  ((with_reducible refine (HE.out _).mono ?_); rintro e w5 ⟨rfl, rfl⟩)
                  unfold hexZ
                  go_wp2_with fail
                  ((with_reducible refine (HW.out _).mono ?_); rintro e w6 ⟨rfl, b6⟩)
                  go_wp2
                  go_roundw
                  case rel => exact ⟨k + 6, _, _, j1, by go_num, rfl, j2, J3, J4, HB.out.trans (b6.mono HB.out.size)⟩
                  case measure => simp [intOf]; omega
                · have e1 : decide ((55296 : Int) ≤ (n : Int)) = true := by rw [decide_eq_true_eq]; omega
                  have e2 : decide ((n : Int) < 57344) = false := by rw [decide_eq_false_iff_not]; omega
                  have e0 : (0 : Int) ≤ (n : Int) := by omega
                  clear hst2 hst hcn HP c32 c92 c34 hE hf hdd hsur hy hnb hl6 hlow hln
                  go_wp2_with fail
                  ((with_reducible refine (HE.out _).mono ?_); rintro e w5 ⟨rfl, rfl⟩)
                  unfold hexZ
                  go_wp2_with fail
                  ((with_reducible refine (HW.out _).mono ?_); rintro e w6 ⟨rfl, b6⟩)
                  go_wp2
                  go_roundw
                  case rel => exact ⟨k + 6, _, _, j1, by go_num, rfl, j2, J3, J4, HB.out.trans (b6.mono HB.out.size)⟩
                  case measure => simp [intOf]; omega
              · have e1 : decide ((55296 : Int) ≤ (n : Int)) = true := by rw [decide_eq_true_eq]; omega
                have e2 : decide ((n : Int) < 57344) = true := by rw [decide_eq_true_eq]; omega
                have hE6 : ∀ V, Calls Tryd.prog 35 #[.string s, .int .i64 ((k : Int) + 6)] V fun e w' => e = .returned (.int .i64 (hexZ (fourL (l.drop (k + 6))))) ∧ V = w' := fun V => by
                  have := HX.out (k + 6) V (by omega)
                  rw [show (((k + 6 : Nat)) : Int) = (k : Int) + 6 from by omega] at this
                  exact this
                obtain ⟨f2, hf2⟩ : ∃ f2, fourL (l.drop (k + 6)) = f2 := ⟨_, rfl⟩
                rw [hf2] at hE6
                have HE6 := Lib.hid hE6
                by_cases hbad : f2 = none ∨ ∃ m, f2 = some m ∧ (56320 ≤ n ∨ m < 56320 ∨ 57343 < m)
                · have hst2 : stepL (l.drop k) = (0, 0, 2 + 1) := by rw [hst, escapeL_half hf hsur (by rw [hdd, hf2]; exact hbad)]
                  have HST := Lib.hid hst2
                  have hcase : (decide ((56320 : Int) ≤ (n : Int)) = true) ∨ (decide ((56320 : Int) ≤ (n : Int)) = false ∧ (f2 = none ∨ (∃ m : Nat, f2 = some m ∧ decide ((m : Int) < 56320) = true) ∨ ∃ m : Nat, f2 = some m ∧ decide ((m : Int) < 56320) = false ∧ decide ((57344 : Int) ≤ (m : Int)) = true)) := by
                    simp only [decide_eq_true_eq, decide_eq_false_iff_not]
                    by_cases hh : 56320 ≤ n
                    · left; omega
                    · right
                      refine ⟨by omega, ?_⟩
                      rcases hbad with hb | ⟨m, hm, hb⟩
                      · exact .inl hb
                      · by_cases hm2 : m < 56320
                        · exact .inr (.inl ⟨m, hm, by omega⟩)
                        · exact .inr (.inr ⟨m, hm, by omega, by omega⟩)
                  clear hst2 hst hcn HP c32 c92 c34 hE hf hdd hnb hl6 hln hE6 hf2 hbad hsur
                  rcases hcase with e3 | ⟨e3, rfl | ⟨m, rfl, e4⟩ | ⟨m, rfl, e4, e5⟩⟩
                  · obtain ⟨x, hx⟩ : ∃ x, hexZ f2 = x := ⟨_, rfl⟩
                    rw [hx] at HE6
                    clear hx
                    go_wp2_with fail
                    ((with_reducible refine (HE.out _).mono ?_); rintro e w5 ⟨rfl, rfl⟩)
                    unfold hexZ
                    go_wp2_with fail
                    ((with_reducible refine (HE6.out _).mono ?_); rintro e w5 ⟨rfl, rfl⟩)
                    go_wp2
                    go_ret3
                    exact HBAD.out _ _ _ _ HST.out HB.out
                  all_goals
                    go_wp2_with fail
                    ((with_reducible refine (HE.out _).mono ?_); rintro e w5 ⟨rfl, rfl⟩)
                    unfold hexZ
                    go_wp2_with fail
                    ((with_reducible refine (HE6.out _).mono ?_); rintro e w5 ⟨rfl, rfl⟩)
                    unfold hexZ
                    go_wp2
                    go_ret3
                    exact HBAD.out _ _ _ _ HST.out HB.out
                · obtain ⟨m, rfl⟩ : ∃ m, f2 = some m := by
                    cases f2 with
                    | none => exact absurd (.inl rfl) hbad
                    | some m => exact ⟨m, rfl⟩
                  have hm : ¬ (56320 ≤ n ∨ m < 56320 ∨ 57343 < m) := fun h => hbad (.inr ⟨m, rfl, h⟩)
                  have hst2 : stepL (l.drop k) = (65536 + 1024 * (n - 55296) + m - 56320, 12, 0) := by rw [hst, escapeL_pair hf hsur (by rw [hdd, hf2]) hm]
                  obtain ⟨r, hr⟩ : ∃ r, 65536 + 1024 * (n - 55296) + m - 56320 = r := ⟨_, rfl⟩
                  have hv : (65536 : Int) + 1024 * ((n : Int) - 55296) + (m : Int) - 56320 = (r : Int) := by omega
                  rw [hr] at hst2
                  obtain ⟨y, hy⟩ : ∃ y, y = bs (encodeRune (r : Int)) := ⟨_, rfl⟩
                  have hys : y.size ≤ 4 := by rw [hy, bs_size]; exact encodeRune_le _
                  obtain ⟨⟨j1, jn⟩, j2, J3, J4⟩ := HGOOD.out r 12 y hst2 hy
                  have HW := Lib.hid (HBY.out r y (by omega) (by omega) hy)
                  have e3 : decide ((56320 : Int) ≤ (n : Int)) = false := by rw [decide_eq_false_iff_not]; omega
                  have e4 : decide ((m : Int) < 56320) = false := by rw [decide_eq_false_iff_not]; omega
                  have e5 : decide ((57344 : Int) ≤ (m : Int)) = false := by rw [decide_eq_false_iff_not]; omega
                  have nb : (n : Int) ≤ 65535 := by omega
                  have mb : (m : Int) ≤ 65535 := by omega
                  clear hst2 hst hcn HP c32 c92 c34 hE hf hdd hnb hl6 hln hE6 hf2 hbad hsur hm hr hy
                  go_wp2_with fail
                  ((with_reducible refine (HE.out _).mono ?_); rintro e w5 ⟨rfl, rfl⟩)
                  unfold hexZ
                  go_wp2_with fail
                  ((with_reducible refine (HE6.out _).mono ?_); rintro e w5 ⟨rfl, rfl⟩)
                  unfold hexZ
                  go_wp2_with fail
                  ((with_reducible refine (HW.out _).mono ?_); rintro e w6 ⟨rfl, b6⟩)
                  go_wp2
                  go_roundw
                  case rel => exact ⟨k + 12, _, _, j1, by go_num, rfl, j2, J3, J4, HB.out.trans (b6.mono HB.out.size)⟩
                  case measure => simp [intOf]; omega
            | none =>
              have HE := Lib.hid hE
              by_cases h2 : k + 1 < s.size
              · obtain ⟨d, hd⟩ : ∃ d, d = (l.getD (k + 1) 0).toNat := ⟨_, rfl⟩
                have g1 := HG.out (k + 1) h2
                rw [← hd] at g1
                have hgd : ((l.drop k).getD 1 0).toNat = d := by rw [hd]; simp [List.getD, List.getElem?_drop]
                have hll : ¬ (l.drop k).length < 2 := by rw [List.length_drop]; have := HZ.out; omega
                have HHIT : Hid (∀ j, j < 8 → (lettersL.getD j 0).toNat = d → stepL (l.drop k) = (codeL.getD j 0, 2, 0)) := fun j hj h => by
                  rw [hst, escapeL_let hll (by rw [hgd]; exact unEsc_hit hj h)]
                have HMISS : Hid (NoLetter d 8 → stepL (l.drop k) = (0, 0, 3 + 1)) := fun h => by
                  rw [hst, escapeL_no hf (.inr (by rw [hgd]; exact unEsc_miss h))]
                have HN0 := Lib.hid (NoLetter.zero d)
                have e2 : decide ((s.size : Int) ≤ (k : Int) + 1) = false := by rw [decide_eq_false_iff_not]; omega
                clear hst hcn HP c32 c92 c34 hE hf hdd hln hd hgd hll
                go_wp2_with fail
                ((with_reducible refine (HE.out _).mono ?_); rintro e w5 ⟨rfl, rfl⟩)
                unfold hexZ
                go_wp2
                go_loopw [13] (fun jv wr2 => ∃ j : Nat, j ≤ 8 ∧ jv = .int .i64 j ∧ Hid (NoLetter d j) ∧ Hid (Below wr.heap.size wr wr2)) (fun jv _ => 8 - (intOf jv).toNat)
                case atStart => exact ⟨0, Nat.zero_le _, rfl, HN0, Below.refl _ _⟩
                case round =>
                  obtain ⟨j, hj, rfl, HN, HB2⟩ := hrel
                  clear HN0
                  by_cases hj8 : j < 8
                  · obtain ⟨x, hx⟩ : ∃ x, x = (lettersL.getD j 0).toNat := ⟨_, rfl⟩
                    have gx : ∀ h, (((⟨#[34, 92, 47, 98, 102, 110, 114, 116]⟩ : ByteArray)[j]'h).toNat : Int) = (x : Int) := fun h => by
                      have := bs_get lettersL j h
                      rw [hx]; exact this
                    have hj8' : ((j : Int) == 8) = false := by rw [beq_eq_false_iff_ne]; omega
                    by_cases hxd : x = d
                    · have hst2 := HHIT.out j hj8 (by rw [← hx]; exact hxd)
                      have hne : ((d : Int) != (x : Int)) = false := by rw [hxd]; simp
                      have HC := Lib.hid (refCode_any j · hj8)
                      have hcl := codeL_lt j
                      obtain ⟨r, hr⟩ : ∃ r, codeL.getD j 0 = r := ⟨_, rfl⟩
                      rw [hr] at hst2 HC hcl
                      obtain ⟨y, hy⟩ : ∃ y, y = bs (encodeRune (r : Int)) := ⟨_, rfl⟩
                      have hys : y.size ≤ 4 := by rw [hy, bs_size]; exact encodeRune_le _
                      obtain ⟨⟨j1, jn⟩, j2, J3, J4⟩ := HGOOD.out r 2 y hst2 hy
                      have HW := Lib.hid (HBY.out r y (by omega) (by omega) hy)
                      clear hst2 hx hxd hr hy HN
                      have w1 : IntKind.i64.wrap ((k : Int) + 1) = (k : Int) + 1 := by rw [IntKind.wrap_i64]; omega
                      have t1 : ((k : Int) + 1).toNat = k + 1 := by omega
                      have p1 : (0 : Int) ≤ (k : Int) + 1 := by omega
                      have l1 : (k : Int) + 1 < (s.size : Int) := by omega
                      have l8 : (j : Int) < 8 := by omega
                      go_wp2
                      go_quiet (fail)
                      clear w1 t1 p1 l1
                      go_wp2_with fail
                      ((with_reducible refine (HC.out _).mono ?_); rintro e w5 ⟨rfl, b5⟩)
                      go_wp2_with fail
                      ((with_reducible refine (HW.out _).mono ?_); rintro e w6 ⟨rfl, b6⟩)
                      go_wp2
                      go_roundw
                      case rel =>
                        have B1 := Below.drewN' (HB.out.trans (HB2.out.mono HB.out.size)) 0
                        exact ⟨k + 2, _, _, j1, by go_num, rfl, j2, J3, J4, ((HB.out.trans (HB2.out.mono HB.out.size)).trans (Below.mono (Below.drewN' (Below.refl _ _) _) B1.size)).trans (Below.trans (b5.mono (by exact B1.size)) (b6.mono (Nat.le_trans B1.size b5.size)))⟩
                      case measure => simp [intOf]; omega
                    · have hne : ((d : Int) != (x : Int)) = true := by rw [bne_iff_ne]; omega
                      have HN2 := Lib.hid (HN.out.on (by rw [← hx]; exact hxd))
                      clear hx hxd HN
                      have w1 : IntKind.i64.wrap ((k : Int) + 1) = (k : Int) + 1 := by rw [IntKind.wrap_i64]; omega
                      have t1 : ((k : Int) + 1).toNat = k + 1 := by omega
                      have p1 : (0 : Int) ≤ (k : Int) + 1 := by omega
                      have l1 : (k : Int) + 1 < (s.size : Int) := by omega
                      have l8 : (j : Int) < 8 := by omega
                      go_wp2
                      go_quiet (fail)
                      clear w1 t1 p1 l1
                      go_wp2
                      go_roundw
                      case rel => exact ⟨j + 1, by omega, by go_num, HN2, Below.drewN' HB2.out _⟩
                      case measure => simp [intOf]; omega
                  · obtain rfl : j = 8 := by omega
                    have HST := Lib.hid (HMISS.out HN.out)
                    clear HN
                    have l8 : decide (((8 : Nat) : Int) < 8) = false := by decide
                    go_wp2
                    go_quiet (fail)
                    go_wp2
                    go_ret3
                    exact HBAD.out _ _ _ _ HST.out (Below.drewN' (HB.out.trans (HB2.out.mono HB.out.size)) _)
              · have hst2 : stepL (l.drop k) = (0, 0, 3 + 1) := by rw [hst, escapeL_no hf (.inl (by rw [List.length_drop]; have := HZ.out; omega))]
                have HST := Lib.hid hst2
                have e2 : decide ((s.size : Int) ≤ (k : Int) + 1) = true := by rw [decide_eq_true_eq]; omega
                clear hst2 hst hcn HP c32 c92 c34 hE hf hdd hln
                go_wp2_with fail
                ((with_reducible refine (HE.out _).mono ?_); rintro e w5 ⟨rfl, rfl⟩)
                unfold hexZ
                go_wp2
                go_loopw [13] (fun jv wr2 => ∃ j : Nat, j ≤ 8 ∧ jv = .int .i64 j ∧ Hid (Below wr.heap.size wr wr2)) (fun jv _ => 8 - (intOf jv).toNat)
                case atStart => exact ⟨0, Nat.zero_le _, rfl, Below.refl _ _⟩
                case round =>
                  obtain ⟨j, hj, rfl, HB2⟩ := hrel
                  by_cases hj8 : j < 8
                  · have w1 : IntKind.i64.wrap ((k : Int) + 1) = (k : Int) + 1 := by rw [IntKind.wrap_i64]; omega
                    have t1 : ((k : Int) + 1).toNat = k + 1 := by omega
                    have p1 : (0 : Int) ≤ (k : Int) + 1 := by omega
                    have l8 : (j : Int) < 8 := by omega
                    go_wp2
                    go_quiet (fail)
                    clear w1 t1 p1
                    go_wp2
                    go_roundw
                    case rel => exact ⟨j + 1, by omega, by go_num, Below.drewN' HB2.out _⟩
                    case measure => simp [intOf]; omega
                  · obtain rfl : j = 8 := by omega
                    have l8 : decide (((8 : Nat) : Int) < 8) = false := by decide
                    go_wp2
                    go_quiet (fail)
                    go_wp2
                    go_ret3
                    exact HBAD.out _ _ _ _ HST.out (Below.drewN' (HB.out.trans (HB2.out.mono HB.out.size)) _)
          · have c92' : ((c : Int) != 92) = true := by rw [bne_iff_ne]; omega
            rw [if_neg c92] at hst
            have hE := fun V => HA.out k V (by omega)
            obtain ⟨p, hp⟩ : ∃ p, at1 (l.drop k) = p := ⟨_, rfl⟩
            have hr1 := at1_rune_lt (l.drop k)
            have hr2 := at1_nohalf (l.drop k)
            unfold plainL at hst
            rw [hp] at hE hst hr1 hr2
            obtain ⟨r, n⟩ := p
            unfold tupN at hE
            have HE := Lib.hid hE
            simp only at hst hr1 hr2
            by_cases hn : n = 0
            · rw [if_pos hn] at hst
              have HST := Lib.hid hst
              have hn' : ((n : Int) == 0) = true := by rw [hn]; rfl
              clear hst hcn HP c32 c92 c34 hE hp hr1 hr2 hn
              go_wp2_with fail
              ((with_reducible refine (HE.out _).mono ?_); rintro e w5 ⟨rfl, rfl⟩)
              go_wp2
              go_ret3
              exact HBAD.out _ _ _ _ HST.out HB.out
            · rw [if_neg hn] at hst
              have hn' : ((n : Int) == 0) = false := by rw [beq_eq_false_iff_ne]; omega
              obtain ⟨y, hy⟩ : ∃ y, y = bs (encodeRune (r : Int)) := ⟨_, rfl⟩
              have hys : y.size ≤ 4 := by rw [hy, bs_size]; exact encodeRune_le _
              obtain ⟨⟨j1, jn⟩, j2, J3, J4⟩ := HGOOD.out r n y hst hy
              have HW := Lib.hid (HBY.out r y hr1 hr2 hy)
              clear hst hcn HP c32 c92 c34 hE hp hr1 hr2 hn hy
              go_wp2_with fail
              ((with_reducible refine (HE.out _).mono ?_); rintro e w5 ⟨rfl, rfl⟩)
              go_wp2_with fail
              ((with_reducible refine (HW.out _).mono ?_); rintro e w6 ⟨rfl, b6⟩)
              go_wp2
              go_roundw
              case rel => exact ⟨k + n, _, _, j1, by go_num, rfl, j2, J3, J4, HB.out.trans (b6.mono HB.out.size)⟩
              case measure => simp [intOf]; omega
    · have hke : k = s.size := by omega
      have hp : P = ([], k, 4) := by
        have hz := HZ.out
        rw [← HP.out, unqGo_bad (by omega) (by rw [step_out (by omega)]; decide), step_out (by omega)]
      have HPP := Lib.hid hp
      have hB := HB.out
      clear hp HP
      subst hke
      go_wp2
      go_ret3
      exact HF.out [] _ 4 _ HPP.out hB
set_option maxRecDepth 100000 in
set_option maxHeartbeats 4000000 in
theorem refUnq_neg (s : ByteArray) (a : Int) (w : World) (h : a < 0) :
    Calls Tryd.prog 18 #[.string s, .int .i64 a] w (Unq w ([], 0, 17)) := by
  go_enter Tryd.func18, Tryd.ntmps18
  go_wp2
  go_ret3
  exact ⟨rfl, Below.refl _ _⟩
set_option maxRecDepth 100000 in
set_option maxHeartbeats 4000000 in
theorem refUnq_far (s : ByteArray) (a : Int) (w : World) (h0 : ¬ a < 0) (h : (s.size : Int) < a) :
    Calls Tryd.prog 18 #[.string s, .int .i64 a] w (Unq w ([], 0, 17)) := by
  go_enter Tryd.func18, Tryd.ntmps18
  go_wp2
  go_ret3
  exact ⟨rfl, Below.refl _ _⟩
set_option maxRecDepth 100000 in
set_option maxHeartbeats 4000000 in
theorem refUnq_end (s : ByteArray) (a : Int) (w : World) (h0 : ¬ a < 0) (h : ¬ (s.size : Int) < a) (h2 : (a == (s.size : Int)) = true) :
    Calls Tryd.prog 18 #[.string s, .int .i64 a] w (Unq w ([], a, 4)) := by
  go_enter Tryd.func18, Tryd.ntmps18
  go_wp2
  go_ret3
  exact ⟨rfl, Below.refl _ _⟩
set_option maxRecDepth 100000 in
set_option maxHeartbeats 4000000 in
theorem refUnq_no (s : ByteArray) (a : Nat) (w : World) (hs : s.size ≤ 140737488351232) (k0 : a < s.size) (c : Int) (hc : ((s[a]'k0).toNat : Int) = c) (h3 : (c != 34) = true) :
    Calls Tryd.prog 18 #[.string s, .int .i64 (a : Int)] w (Unq w ([], (a : Int), 4)) := by
  have h1 : ¬ (a : Int) < 0 := by omega
  have h2 : ¬ (s.size : Int) < (a : Int) := by omega
  have h4 : ((a : Int) == (s.size : Int)) = false := by rw [beq_eq_false_iff_ne]; omega
  go_enter Tryd.func18, Tryd.ntmps18
  go_wp2
  go_ret3
  exact ⟨rfl, Below.refl _ _⟩
theorem refUnq_any (l : List UInt8) (a : Int) (w : World) (hs : l.length ≤ 140737488351232) :
    Calls Tryd.prog 18 #[.string (bs l), .int .i64 a] w (Unq w (unquoteL l a)) := by
  have hz := bs_size l
  unfold unquoteL
  by_cases h1 : a < 0 ∨ (l.length : Int) < a
  · rw [if_pos h1]
    by_cases h0 : a < 0
    · exact refUnq_neg (bs l) a w h0
    · exact refUnq_far (bs l) a w h0 (by omega)
  rw [if_neg h1]
  obtain ⟨k, rfl⟩ : ∃ k : Nat, a = (k : Int) := ⟨a.toNat, by omega⟩
  rw [show ((k : Int)).toNat = k from Int.toNat_natCast k]
  by_cases h2 : k = l.length
  · rw [if_pos (.inl (by omega))]
    exact refUnq_end (bs l) (k : Int) w (by omega) (by omega) (by rw [hz, h2, beq_self_eq_true])
  have k0 : k < (bs l).size := by omega
  by_cases h3 : (l.getD k 0).toNat = 34
  · rw [if_neg (by omega)]
    exact refUnq_go l k w hs (by omega) h3
  · rw [if_pos (.inr h3)]
    exact refUnq_no (bs l) k w (by omega) k0 _ (bs_get l k k0) (by rw [bne_iff_ne]; omega)
end Go.Proofs.YtgeefnmgejnemaaDoor
