import Derived.Test.YtgeefnmgejnemaaDoorUtfUnq
namespace Go.Proofs.YtgeefnmgejnemaaDoor
open Go.RowKit Go.Shelf Utf
open Go.Lib (encodeRune byteCells byteCells_append byteCells_encodeRune byteCells_length encodeRuneZ_length)
set_option linter.unusedSimpArgs false
set_option linter.unusedVariables false
namespace Utf
theorem step_at {l : List UInt8} {k : Nat} (hk : k < l.length) : stepL (l.drop k) = if (l.getD k 0).toNat < 32 then (0, 1, 4) else if (l.getD k 0).toNat = 92 then escapeL (l.drop k) else plainL (l.drop k) := by
  have h1 : l.drop k ≠ [] := by
    intro e
    have := congrArg List.length e
    rw [List.length_drop, List.length_nil] at this
    omega
  have h2 : (l.drop k).getD 0 0 = l.getD k 0 := by simp [List.getD, List.getElem?_drop]
  unfold stepL
  rw [h2]
  by_cases h : (l.getD k 0).toNat < 32
  · rw [if_pos (.inr h), if_pos h]
  · rw [if_neg (fun h' => h'.elim h1 h), if_neg h]
theorem step_out {l : List UInt8} {k : Nat} (hk : l.length ≤ k) : stepL (l.drop k) = (0, 1, 4) := if_pos (.inl (List.drop_eq_nil_of_le hk))
theorem encodeRune_le (r : Int) : (encodeRune r).length ≤ 4 := by
  have := (encodeRuneZ_length r).2
  unfold encodeRune
  simp only [List.length_map]
  omega
end Utf
set_option maxRecDepth 100000 in
set_option maxHeartbeats 8000000 in
theorem unq_go (l : List UInt8) (a : Nat) (w : World) (hs : l.length ≤ 140737488351232) (hT : Tabs w) (k0 : a < l.length) (hc : (l.getD a 0).toNat = 34) :
    Calls Tryd.prog 17 #[.string (bs l), .int .i64 (a : Int)] w (Unq w ((unqGo l (a + 1) []).1, ((unqGo l (a + 1) []).2.1 : Int), (unqGo l (a + 1) []).2.2)) := by
  obtain ⟨P, hP⟩ : ∃ P, unqGo l (a + 1) [] = P := ⟨_, rfl⟩
  rw [hP]
  have HF : Hid (∀ (out : List UInt8) (k e : Nat) (w' : World), P = (out, k, e) → Below w.heap.size w w' → Unq w (P.1, (P.2.1 : Int), P.2.2) (.returned (.tuple #[.string (bs out), .int .i64 (k : Int), .int .i64 (e : Int)])) w') := fun out k e w' h hb => by
    subst h; exact ⟨rfl, hb⟩
  obtain ⟨s, hs1, hsz, hsg⟩ := str_nm l
  have hES : Hid (∀ (k : Nat) V M, RuneMap V M 8 escD → Calls Tryd.prog 33 #[.string (s.extract k s.size), .map (some M)] V fun e V' => e = .returned (escV (escapeL (l.drop k))) ∧ Below V.heap.size V V') := fun k V M hM => by
    rw [hs1, bs_drop]
    exact escape_any _ V M hM (by rw [List.length_drop]; omega)
  have hPL : Hid (∀ (k : Nat) V, Tabs V → Calls Tryd.prog 34 #[.string (s.extract k s.size)] V fun e V' => e = .returned (escV (plainL (l.drop k))) ∧ Below V.heap.size V V') := fun k V hV => by
    rw [hs1, bs_drop]
    exact plain_utf _ V (by rw [List.length_drop]; omega) hV
  have HX : Hid (∀ V, Calls Tryd.prog 32 #[] V (EscMap V)) := esc_any
  have hk0 : a < s.size := by omega
  have g0 := hsg a hk0
  rw [hc] at g0
  have HG : Hid (∀ (j : Nat) (h : j < s.size), ((s[j]'h).toNat : Int) = ((l.getD j 0).toNat : Int)) := hsg
  have HT := Lib.hid hT
  have HP0 := Lib.hid hP
  have HZ : Hid (s.size = l.length) := hsz
  have hs2 : s.size ≤ 140737488351232 := by omega
  rw [← hs1]
  have h1 : ¬ (a : Int) < 0 := by omega
  have h2 : ¬ (s.size : Int) < (a : Int) := by omega
  have h4 : ((a : Int) == (s.size : Int)) = false := by rw [beq_eq_false_iff_ne]; omega
  clear hP hs1 hsg hc hT hsz hs k0
  go_enter Tryd.func17, Tryd.ntmps17
  go_wp2
  go_step3
  go_wp2_with (go_at_call 32; refine (HX.out _).mono ?_; rintro e w1 ⟨rfl, hm1, b1⟩)
  obtain ⟨W2, hW2⟩ : ∃ W2, w1.alloc (.cells #[.pointer none, .slice none 0 0] 55) = W2 := ⟨_, rfl⟩
  have hU0 : UI w w.heap.size w1.heap.size [] W2 := by
    have hM : w.heap.size < w1.heap.size := by
      obtain ⟨es, clock, hb, _⟩ := hm1
      exact at_lt hb
    have hB : Below w1.heap.size w1 W2 := by rw [← hW2]; exact (Below.refl _ w1).alloc (Nat.le_refl _) _
    exact ⟨⟨hM, b1.size⟩, by rw [← hW2]; exact bld_new _ w1 (Nat.le_refl _), World.ownsMap.kept hm1 (grown_none hB) (by simp), b1.trans (hB.mono b1.size)⟩
  rw [hW2]
  have HU0 := Lib.hid hU0
  clear hU0 hW2 hm1 b1 h1 h2 h4
  go_step3
  go_wp2
  go_loopw [1] (fun iv wr => ∃ (k : Nat) (out : List UInt8), k ≤ s.size ∧ iv = .int .i64 k ∧ Hid (UI w w.heap.size w1.heap.size out wr) ∧ Hid (out.length ≤ k) ∧ Hid (unqGo l k out = P))
    (fun iv _ => s.size - (intOf iv).toNat)
  case atStart => exact ⟨a + 1, [], by omega, by rfl, HU0, Nat.zero_le _, HP0⟩
  case round =>
    obtain ⟨k, out, hk, rfl, HU, HO, HP⟩ := hrel
    clear HP0 HU0 g0 hk0
    by_cases hlt : k < s.size
    · obtain ⟨c, hcn⟩ : ∃ c, c = (l.getD k 0).toNat := ⟨_, rfl⟩
      have g := HG.out k hlt
      rw [← hcn] at g
      have hst := step_at (l := l) (k := k) (by have := HZ.out; omega)
      rw [← hcn] at hst
      have hkl : k < l.length := by have := HZ.out; omega
      have hcs : ((k : Int) == (s.size : Int)) = false := by rw [beq_eq_false_iff_ne]; omega
      by_cases c32 : c < 32
      · have hp : P = ([], k, 4) := by
          rw [← HP.out, unqGo_bad (by rw [← hcn]; omega) (by rw [hst, if_pos c32]; decide), hst, if_pos c32]
        have HPP := Lib.hid hp
        have c32' : (c : Int) < 32 := by omega
        have hB := HU.out.bel
        clear hp hst hcn HP c32
        go_wp2
        go_ret3
        exact HF.out [] k 4 _ HPP.out hB
      · have c32' : ¬ (c : Int) < 32 := by omega
        by_cases c34 : c = 34
        · have hp : P = (out, k + 1, 0) := by rw [← HP.out, unqGo_end hkl (by rw [← hcn]; exact c34)]
          have HPP := Lib.hid hp
          have c34' : ((c : Int) == 34) = true := by rw [c34]; rfl
          have HS := Lib.hid (Tryd.Builder_String_any_k w1.heap.size w1.heap.size _ wr HU.out.bld (by have := HU.out.bld.sz; omega))
          have HBB : Hid (∀ V, Below w1.heap.size wr V → Below w.heap.size w V) := fun V hV => HU.out.bel.trans (hV.mono HU.out.lt.2)
          clear hp hst hcn HP c32
          go_wp2_with (go_at_call 30; refine HS.out.mono ?_; rintro e w5 ⟨rfl, u5, B5, O5⟩)
          go_ret3
          exact HF.out out (k + 1) 0 _ HPP.out (HBB.out _ B5)
        · have c34' : ((c : Int) == 34) = false := by rw [beq_eq_false_iff_ne]; omega
          by_cases c92 : c = 92
          · have c92' : ((c : Int) == 92) = true := by rw [c92]; rfl
            have hst2 : stepL (l.drop k) = escapeL (l.drop k) := by rw [hst, if_neg c32, if_pos c92]
            obtain ⟨r, n, er, hq⟩ : ∃ r n er, escapeL (l.drop k) = (r, n, er) := ⟨_, _, _, rfl⟩
            have hE := hES.out k wr _ HU.out.map
            rw [hq] at hE
            unfold escV at hE
            have HE := Lib.hid hE
            rw [hq] at hst2
            by_cases he : er = 0
            · subst he
              obtain ⟨hr, hn1, hn2⟩ := stepL_good (l := l.drop k) (by rw [hst2])
              rw [hst2] at hr hn1 hn2
              simp only at hr hn1 hn2
              rw [List.length_drop] at hn2
              have hN : unqGo l (k + n) (out ++ encodeRune (r : Int)) = P := by
                rw [← HP.out, unqGo_on (k := k) (by rw [← hcn]; omega) (by rw [hst2]) (by rw [hst2]; simp only; omega) hkl, hst2]
              have HN := Lib.hid hN
              have hO : (out ++ encodeRune (r : Int)).length ≤ k + n := by
                have h1 := stepL_enc (l := l.drop k) (by rw [hst2])
                rw [hst2] at h1
                simp only at h1
                have h2 := HO.out
                rw [List.length_append]; omega
              have HON := Lib.hid hO
              have HW : Hid (∀ V, Below wr.heap.size wr V → Calls Tryd.prog 28 #[.pointer (some ⟨w1.heap.size, 0, none⟩), .int .i32 (r : Int)] V fun e V' => (∃ v, e = .returned v) ∧ UI w w.heap.size w1.heap.size (out ++ encodeRune (r : Int)) V') := fun V hV =>
                urune (HU.out.on hV) (by have := HO.out; omega) r hr
              have hkn : k + n ≤ s.size := by have := HZ.out; omega
              clear hN hO hE hq hst2 hst hcn HP c32 c34 c92 hr hkl
              go_wp2_with (go_at_call 33; (with_reducible refine HE.out.mono ?_); rintro e w5 ⟨rfl, b5⟩)
              go_wp2_with (go_at_call 28; (with_reducible refine (HW.out _ b5).mono ?_); rintro e w6 ⟨⟨v6, rfl⟩, u6⟩)
              go_roundw
              case rel => exact ⟨k + n, _, hkn, by rfl, u6, HON, HN⟩
              case measure => simp [intOf]; omega
            · have hp : P = ([], k, er) := by rw [← HP.out, unqGo_bad (k := k) (by rw [← hcn]; omega) (by rw [hst2]; exact he), hst2]
              have HPP := Lib.hid hp
              have he2 : ((er : Int) == 0) = false := by rw [beq_eq_false_iff_ne]; omega
              have hB := Lib.hid HU.out.bel
              clear hp hE hq hst2 hst hcn HP c32 c34 c92 he hkl
              go_wp2_with (go_at_call 33; (with_reducible refine HE.out.mono ?_); rintro e w5 ⟨rfl, b5⟩)
              go_ret3
              exact HF.out [] k er _ HPP.out (hB.out.trans (b5.mono hB.out.size))
          · have c92' : ((c : Int) == 92) = false := by rw [beq_eq_false_iff_ne]; omega
            have hst2 : stepL (l.drop k) = plainL (l.drop k) := by rw [hst, if_neg c32, if_neg c92]
            obtain ⟨r, n, er, hq⟩ : ∃ r n er, plainL (l.drop k) = (r, n, er) := ⟨_, _, _, rfl⟩
            have hE := hPL.out k wr (tabs_below HT.out HU.out.bel)
            rw [hq] at hE
            unfold escV at hE
            have HE := Lib.hid hE
            rw [hq] at hst2
            by_cases he : er = 0
            · subst he
              obtain ⟨hr, hn1, hn2⟩ := stepL_good (l := l.drop k) (by rw [hst2])
              rw [hst2] at hr hn1 hn2
              simp only at hr hn1 hn2
              rw [List.length_drop] at hn2
              have hN : unqGo l (k + n) (out ++ encodeRune (r : Int)) = P := by
                rw [← HP.out, unqGo_on (k := k) (by rw [← hcn]; omega) (by rw [hst2]) (by rw [hst2]; simp only; omega) hkl, hst2]
              have HN := Lib.hid hN
              have hO : (out ++ encodeRune (r : Int)).length ≤ k + n := by
                have h1 := stepL_enc (l := l.drop k) (by rw [hst2])
                rw [hst2] at h1
                simp only at h1
                have h2 := HO.out
                rw [List.length_append]; omega
              have HON := Lib.hid hO
              have HW : Hid (∀ V, Below wr.heap.size wr V → Calls Tryd.prog 28 #[.pointer (some ⟨w1.heap.size, 0, none⟩), .int .i32 (r : Int)] V fun e V' => (∃ v, e = .returned v) ∧ UI w w.heap.size w1.heap.size (out ++ encodeRune (r : Int)) V') := fun V hV =>
                urune (HU.out.on hV) (by have := HO.out; omega) r hr
              have hkn : k + n ≤ s.size := by have := HZ.out; omega
              clear hN hO hE hq hst2 hst hcn HP c32 c34 c92 hr hkl
              go_wp2_with (go_at_call 34; (with_reducible refine HE.out.mono ?_); rintro e w5 ⟨rfl, b5⟩)
              go_wp2_with (go_at_call 28; (with_reducible refine (HW.out _ b5).mono ?_); rintro e w6 ⟨⟨v6, rfl⟩, u6⟩)
              go_roundw
              case rel => exact ⟨k + n, _, hkn, by rfl, u6, HON, HN⟩
              case measure => simp [intOf]; omega
            · have hp : P = ([], k, er) := by rw [← HP.out, unqGo_bad (k := k) (by rw [← hcn]; omega) (by rw [hst2]; exact he), hst2]
              have HPP := Lib.hid hp
              have he2 : ((er : Int) == 0) = false := by rw [beq_eq_false_iff_ne]; omega
              have hB := Lib.hid HU.out.bel
              clear hp hE hq hst2 hst hcn HP c32 c34 c92 he hkl
              go_wp2_with (go_at_call 34; (with_reducible refine HE.out.mono ?_); rintro e w5 ⟨rfl, b5⟩)
              go_ret3
              exact HF.out [] k er _ HPP.out (hB.out.trans (b5.mono hB.out.size))
    · have hke : k = s.size := by omega
      have hp : P = ([], k, 4) := by
        have hz := HZ.out
        rw [← HP.out, unqGo_bad (by omega) (by rw [step_out (by omega)]; decide), step_out (by omega)]
      have HPP := Lib.hid hp
      have hcs : ((k : Int) == (s.size : Int)) = true := by rw [hke, beq_self_eq_true]
      have hB := HU.out.bel
      clear hp HP hke
      go_wp2
      go_ret3
      exact HF.out [] k 4 _ HPP.out hB
theorem unquote_any (l : List UInt8) (a : Int) (w : World) (hs : l.length ≤ 140737488351232) (hT : Tabs w) :
    Calls Tryd.prog 17 #[.string (bs l), .int .i64 a] w (Unq w (unquoteL l a)) := by
  have hz := bs_size l
  unfold unquoteL
  by_cases h1 : a < 0 ∨ (l.length : Int) < a
  · rw [if_pos h1]
    by_cases h0 : a < 0
    · exact unq_neg (bs l) a w h0
    · exact unq_far (bs l) a w h0 (by omega)
  rw [if_neg h1]
  obtain ⟨k, rfl⟩ : ∃ k : Nat, a = (k : Int) := ⟨a.toNat, by omega⟩
  rw [show ((k : Int)).toNat = k from Int.toNat_natCast k]
  by_cases h2 : k = l.length
  · rw [if_pos (.inl (by omega))]
    exact unq_end (bs l) (k : Int) w (by omega) (by omega) (by rw [hz, h2, beq_self_eq_true])
  have k0 : k < (bs l).size := by omega
  by_cases h3 : (l.getD k 0).toNat = 34
  · rw [if_neg (by omega)]
    exact unq_go l k w hs hT (by omega) h3
  · rw [if_pos (.inr h3)]
    exact unq_no (bs l) k w (by omega) k0 _ (bs_get l k k0) (by rw [beq_eq_false_iff_ne]; omega)
end Go.Proofs.YtgeefnmgejnemaaDoor
