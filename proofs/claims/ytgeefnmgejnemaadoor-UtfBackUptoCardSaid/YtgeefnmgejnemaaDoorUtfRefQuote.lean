import Derived.Test.YtgeefnmgejnemaaDoorUtfRunesR
import Derived.Test.YtgeefnmgejnemaaDoorUtfCode
import Derived.Test.YtgeefnmgejnemaaDoorUtfLawEsc
import Derived.Test.YtgeefnmgejnemaaDoorUtfBytes
namespace Go.Proofs.YtgeefnmgejnemaaDoor
open Go.RowKit Go.Shelf Utf
open Go.Lib (encodeRune validD)
set_option linter.unusedSimpArgs false
set_option linter.unusedVariables false
namespace Utf
theorem encodeRune_le' (r : Int) : (encodeRune r).length ≤ 4 := by
  have := (Lib.encodeRuneZ_length r).2
  unfold encodeRune
  simp only [List.length_map]
  omega
def lettersL : List UInt8 := [34, 92, 47, 98, 102, 110, 114, 116]
/-- None of the first letters stands for the rune. -/
def NoneYet (r k : Nat) : Prop := ∀ j, j < k → j = 2 ∨ codeL.getD j 0 ≠ r
theorem NoneYet.zero (r : Nat) : NoneYet r 0 := fun j h => absurd h (by omega)
theorem NoneYet.on {r k : Nat} (h : NoneYet r k) (hk : k = 2 ∨ codeL.getD k 0 ≠ r) : NoneYet r (k + 1) := fun j hj => by
  by_cases e : j = k
  · subst e; exact hk
  · exact h j (by omega)
theorem escOf_hit {r k : Nat} (hk : k < 8) (h2 : k ≠ 2) (h : codeL.getD k 0 = r) : escOf r = some (lettersL.getD k 0) := by
  have : k = 0 ∨ k = 1 ∨ k = 3 ∨ k = 4 ∨ k = 5 ∨ k = 6 ∨ k = 7 := by omega
  subst h
  rcases this with rfl | rfl | rfl | rfl | rfl | rfl | rfl <;> decide
theorem escOf_miss {r : Nat} (h : NoneYet r 8) : escOf r = none := by
  have h0 := h 0 (by omega)
  have h1 := h 1 (by omega)
  have h3 := h 3 (by omega)
  have h4 := h 4 (by omega)
  have h5 := h 5 (by omega)
  have h6 := h 6 (by omega)
  have h7 := h 7 (by omega)
  simp [codeL] at h0 h1 h3 h4 h5 h6 h7
  unfold escOf
  rw [if_neg (by omega), if_neg (by omega), if_neg (by omega), if_neg (by omega), if_neg (by omega), if_neg (by omega), if_neg (by omega)]
theorem quoteR_hit {r k : Nat} (hk : k < 8) (h2 : k ≠ 2) (h : codeL.getD k 0 = r) : quoteR r = [92, lettersL.getD k 0] := by
  unfold quoteR
  rw [escOf_hit hk h2 h]
theorem quoteR_low {r : Nat} (h : NoneYet r 8) (h2 : r < 32) : quoteR r = [92, 117, 48, 48, hexL.getD (r / 16) 0, hexL.getD (r % 16) 0] := by
  unfold quoteR
  rw [escOf_miss h]
  simp only
  rw [if_pos h2]
theorem quoteR_high {r : Nat} (h : NoneYet r 8) (h2 : ¬ r < 32) : quoteR r = encodeRune (r : Int) := by
  unfold quoteR
  rw [escOf_miss h]
  simp only
  rw [if_neg h2]
theorem quoteOf_snoc (R : List (Nat × Nat)) (x : Nat × Nat) : quoteOf (R ++ [x]) = quoteOf R ++ quoteR x.2 := by simp [quoteOf]
theorem quoteOf_len (R : List (Nat × Nat)) : (quoteOf R).length ≤ 6 * R.length := by
  induction R with
  | nil => simp [quoteOf]
  | cons x R ih =>
    have := quoteR_len x.2
    have e : quoteOf (x :: R) = quoteR x.2 ++ quoteOf R := by simp [quoteOf]
    rw [e, List.length_append, List.length_cons]
    omega
theorem at1_nohalf (l : List UInt8) : (at1 l).1 < 55296 ∨ 57343 < (at1 l).1 := by
  unfold at1
  split
  · simp
  · rename_i hne
    rw [Lib.decodeL_N]
    have h0 := (l.getD 0 0).toNat_lt
    have h1 := (l.getD 1 0).toNat_lt
    have h2 := (l.getD 2 0).toNat_lt
    have h3 := (l.getD 3 0).toNat_lt
    generalize (l.getD 0 0).toNat = a at *
    generalize (l.getD 1 0).toNat = b at *
    generalize (l.getD 2 0).toNat = c at *
    generalize (l.getD 3 0).toNat = d at *
    unfold Lib.decodeN
    repeat' split
    all_goals (simp only; omega)
/-- Every rune of a text is one. -/
theorem runesAt_good (l : List UInt8) : ∀ n k, l.length - k ≤ n → ∀ x ∈ runesAt l k, x.2 ≤ 1114111 ∧ (x.2 < 55296 ∨ 57343 < x.2)
  | 0, k, hn, x, hx => by
    by_cases h : (at1 (l.drop k)).2 = 0
    · rw [runesAt_none h] at hx; simp at hx
    · have := at1_le h; omega
  | n + 1, k, hn, x, hx => by
    by_cases h : (at1 (l.drop k)).2 = 0
    · rw [runesAt_none h] at hx; simp at hx
    · have h1 := at1_le h
      rw [runesAt_some h] at hx
      rcases List.mem_cons.1 hx with rfl | hx
      · exact ⟨at1_rune_lt _, at1_nohalf _⟩
      · exact runesAt_good l n _ (by omega) x hx
theorem runesL_good (l : List UInt8) : ∀ x ∈ runesL l, x.2 ≤ 1114111 ∧ (x.2 < 55296 ∨ 57343 < x.2) := runesAt_good l l.length 0 (by omega)
end Utf
/-- What a quote answers. -/
def Quoted2 (w : World) (p : List UInt8 × Nat) (e : Ending) (w' : World) : Prop := e = .returned (.tuple #[.string (bs p.1), .int .i64 (p.2 : Int)]) ∧ Below w.heap.size w w'
set_option maxRecDepth 100000 in
set_option maxHeartbeats 8000000 in
theorem refQuote_any (l : List UInt8) (w : World) (hs : l.length ≤ 1099511627776) :
    Calls Tryd.prog 16 #[.string (bs l)] w (Quoted2 w (quoteL l)) := by
  have hz := bs_size l
  obtain ⟨R, hR⟩ : ∃ R, R = runesL l := ⟨_, rfl⟩
  have hRl : R.length ≤ 1099511627776 := by have := runesL_length l; rw [hR]; omega
  have hgood : ∀ x ∈ R, x.2 ≤ 1114111 ∧ (x.2 < 55296 ∨ 57343 < x.2) := by rw [hR]; exact runesL_good l
  have HV : Hid (∀ V, Calls Tryd.prog 10 #[.string (bs l)] V fun e w' => e = .returned (.bool (validD l)) ∧ V = w') := fun V => (refValid_any (bs l) V (by omega)).mono fun _ _ h => ⟨h.1, h.2.symm⟩
  have HR : Hid (∀ V, Calls Tryd.prog 12 #[.string (bs l)] V (RunesMade V R)) := fun V => by rw [hR]; exact refRunes_any l V hs
  have hq : quoteL l = if validD l then (34 :: (quoteOf R ++ [34]), 0) else ([], 3) := by rw [hR]; rfl
  rw [hq]
  have HG := Lib.hid hgood
  obtain ⟨s, hse⟩ : ∃ s : ByteArray, s = bs l := ⟨_, rfl⟩
  rw [← hse] at HV HR ⊢
  obtain ⟨v, hv⟩ : ∃ v, v = validD l := ⟨_, rfl⟩
  rw [← hv] at HV ⊢
  clear hse hz hR hq hgood hs hv
  cases v
  · go_enter Tryd.func16, Tryd.ntmps16
    go_wp2_with fail
    ((with_reducible refine (HV.out _).mono ?_); rintro e w1 ⟨rfl, rfl⟩)
    go_wp2
    go_ret2
    exact ⟨rfl, Below.refl _ _⟩
  · go_enter Tryd.func16, Tryd.ntmps16
    go_wp2_with fail
    ((with_reducible refine (HV.out _).mono ?_); rintro e w1 ⟨rfl, rfl⟩)
    go_wp2_with fail
    ((with_reducible refine (HR.out _).mono ?_); rintro e w1 ⟨v1, v2, rfl, TR⟩)
    obtain ⟨A, c, rfl, hnc, hc, hA⟩ := own_slice TR.runes
    have hB := TR.bel
    clear TR HV HR
    have hA0 : Below w.heap.size w w1 ∧ At w1 w1.heap.size 1 A R.length (runesV R) := ⟨hB, hA⟩
    have HA0 := Lib.hid hA0
    clear hA0 hA hB
    go_wp2
    go_loopw [4, 8] (fun o i wr => ∃ (k : Nat) (q : ByteArray), k ≤ R.length ∧ i = .int .i64 k ∧ o = .string q ∧ q.size ≤ 6597069766657 ∧ Hid (q = bs (34 :: quoteOf (R.take k))) ∧ Hid (Below w.heap.size w wr ∧ At wr wr.heap.size 1 A R.length (runesV R)))
      (fun _ i _ => R.length - (intOf i).toNat)
    case atStart => exact ⟨0, _, Nat.zero_le _, rfl, rfl, by decide, by rfl, HA0⟩
    case round =>
      obtain ⟨k, q, hk, rfl, rfl, hqs, HQ, HW⟩ := hrel
      clear HA0
      by_cases hlt : k < R.length
      · obtain ⟨b, o, u, rfl, hb, hu, hcell⟩ := HW.out.2.at1 hlt
        have hu2 : (runesV R)[k]? = some (.int .i64 ((R[k]'hlt).2 : Int)) := by simp [runesV, hlt]
        rw [hu2] at hu
        injection hu with hu
        subst hu
        clear hu2
        have hg := HG.out (R[k]'hlt) (List.getElem_mem hlt)
        obtain ⟨r, hr⟩ : ∃ r, r = (R[k]'hlt).2 := ⟨_, rfl⟩
        rw [← hr] at hcell hg
        have HRR := Lib.hid hr
        have HN0 := Lib.hid (NoneYet.zero r)
        clear hr
        obtain ⟨hg1, hg2⟩ := hg
        go_wp2
        have NX : Hid (∀ q' : ByteArray, q' = bs (34 :: quoteOf (R.take (k + 1))) → q'.size ≤ 6597069766657) := fun q' h => by
          have h1 := quoteOf_len (R.take (k + 1))
          have h2 : (R.take (k + 1)).length ≤ R.length := by rw [List.length_take]; omega
          rw [h, bs_size, List.length_cons]
          omega
        have HW2 : Hid (∀ V, Below wr.heap.size wr V → Below w.heap.size w V ∧ At V V.heap.size 1 (some ⟨b, o, none⟩) R.length (runesV R)) := fun V hV => ⟨HW.out.1.trans (hV.mono HW.out.1.size), HW.out.2.arg hV⟩
        clear HW
        go_loopw [10] (fun jv wr2 => ∃ j : Nat, j ≤ 8 ∧ jv = .int .i64 j ∧ Hid (NoneYet r j) ∧ Hid (Below wr.heap.size wr wr2)) (fun jv _ => 8 - (intOf jv).toNat)
        case atStart => exact ⟨0, Nat.zero_le _, rfl, HN0, Below.refl _ _⟩
        case round =>
          obtain ⟨j, hj, rfl, HN, HB⟩ := hrel
          clear HN0
          by_cases hj8 : j < 8
          · by_cases hj2 : j = 2
            · have hj2' : ((j : Int) == 2) = true := by rw [hj2]; rfl
              have HN2 := Lib.hid (HN.out.on (.inl hj2))
              clear HN hj2
              go_wp2
              go_roundw
              case rel => exact ⟨j + 1, by omega, by go_num, HN2, HB⟩
              case measure => simp [intOf]; omega
            · have hj2' : ((j : Int) == 2) = false := by rw [beq_eq_false_iff_ne]; omega
              have HC := Lib.hid (refCode_any j · hj8)
              have hcl := codeL_lt j
              by_cases hc : codeL.getD j 0 = r
              · have hq2 : bs (34 :: quoteOf (R.take (k + 1))) = q ++ bs [92] ++ (bs lettersL).extract j (j + 1) := by
                  rw [HQ.out, bs_one _ _ (by simpa [lettersL] using hj8), bs_append, bs_append, List.take_succ_eq_append_getElem hlt, quoteOf_snoc, ← HRR.out, quoteR_hit hj8 hj2 hc]
                  simp
                have HQ2 := Lib.hid hq2.symm
                have heq : ((codeL.getD j 0 : Nat) : Int) = r := by rw [hc]
                rw [heq] at HC
                clear HN hj2 hc hcl hq2 heq
                go_wp2_with fail
                ((with_reducible refine (HC.out _).mono ?_); rintro e w2 ⟨rfl, b2⟩)
                go_wp2
                go_roundw
                case rel => exact ⟨k + 1, _, by omega, by go_num, by rfl, NX.out _ HQ2.out, HQ2.out, HW2.out _ (HB.out.trans (b2.mono HB.out.size))⟩
                case measure => simp [intOf]; omega
              · have HN2 := Lib.hid (HN.out.on (.inr hc))
                obtain ⟨x, hx⟩ : ∃ x, codeL.getD j 0 = x := ⟨_, rfl⟩
                rw [hx] at HC hcl hc
                have hne : ((x : Int) != (r : Int)) = true := by rw [bne_iff_ne]; omega
                clear HN hj2 hx hc
                go_wp2_with fail
                ((with_reducible refine (HC.out _).mono ?_); rintro e w2 ⟨rfl, b2⟩)
                go_wp2
                go_roundw
                case rel => exact ⟨j + 1, by omega, by go_num, HN2, HB.out.trans (b2.mono HB.out.size)⟩
                case measure => simp [intOf]; omega
          · obtain rfl : j = 8 := by omega
            have hno := HN.out
            by_cases h32 : r < 32
            · have e1 : (r : Int) / 16 = ((r / 16 : Nat) : Int) := by omega
              have e2 : (r : Int) % 16 = ((r % 16 : Nat) : Int) := by omega
              have b1 : r / 16 < 2 := by omega
              have b2 : r % 16 < 16 := by omega
              have hq2 : bs (34 :: quoteOf (R.take (k + 1))) = q ++ bs [92, 117, 48, 48] ++ (bs hexL).extract (r / 16) (r / 16 + 1) ++ (bs hexL).extract (r % 16) (r % 16 + 1) := by
                rw [HQ.out, bs_one _ _ (by simp [hexL]; omega), bs_one _ _ (by simpa [hexL] using b2), bs_append, bs_append, bs_append, List.take_succ_eq_append_getElem hlt, quoteOf_snoc, ← HRR.out, quoteR_low hno h32]
                simp
              generalize r / 16 = x at *
              generalize r % 16 = y at *
              have HQ2 := Lib.hid hq2.symm
              have h32' : (r : Int) < 32 := by omega
              clear HN hno hq2
              go_wp2
              go_quiet (fail)
              go_wp2
              go_roundw
              case rel => exact ⟨k + 1, _, by omega, by go_num, by rfl, NX.out _ HQ2.out, HQ2.out, HW2.out _ (by first | exact HB.out | exact Below.drewN' HB.out _)⟩
              case measure => simp [intOf]; omega
            · have h32' : ¬ (r : Int) < 32 := by omega
              have HC := Lib.hid (refBytes_any r · hg1 hg2)
              obtain ⟨y, hy⟩ : ∃ y, y = bs (encodeRune (r : Int)) := ⟨_, rfl⟩
              have hys : y.size ≤ 4 := by rw [hy, bs_size]; exact encodeRune_le' _
              rw [← hy] at HC
              have hq2 : bs (34 :: quoteOf (R.take (k + 1))) = q ++ y := by
                rw [HQ.out, hy, bs_append, List.take_succ_eq_append_getElem hlt, quoteOf_snoc, ← HRR.out, quoteR_high hno h32]
                simp
              have HQ2 := Lib.hid hq2.symm
              clear HN hno hq2 hy
              go_wp2_with fail
              ((with_reducible refine (HC.out _).mono ?_); rintro e w2 ⟨rfl, b2⟩)
              go_wp2
              go_roundw
              case rel => exact ⟨k + 1, _, by omega, by go_num, by rfl, NX.out _ HQ2.out, HQ2.out, HW2.out _ (HB.out.trans (b2.mono HB.out.size))⟩
              case measure => simp [intOf]; omega
      · have hke : k = R.length := by omega
        have hq2 : q ++ bs [34] = bs (34 :: (quoteOf R ++ [34])) := by
          rw [HQ.out, bs_append, List.take_of_length_le (by omega)]
          rfl
        have HQ2 := Lib.hid hq2
        clear hq2
        go_wp2
        go_ret2
        refine ⟨?_, HW.out.1⟩
        show Ending.returned (.tuple #[.string (q ++ bs [34]), .int .i64 0]) = _
        rw [HQ2.out]; rfl
end Go.Proofs.YtgeefnmgejnemaaDoor
