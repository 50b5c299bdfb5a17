import Derived.Test.YthaikagelloeoaaDoorValMay
import Derived.StillTailTactics
namespace Go.Proofs.YthaikagelloeoaaDoor
open Go.RowKit Val

theorem cmpKind_any (x y : Int) (w : World) : Calls Tryd.prog 38 #[.int .i64 x, .int .i64 y] w fun e w' => e = .returned (.int .i64 (cmpI x y)) ∧ w' = w := by
  obtain ⟨q, hq⟩ : ∃ q, q = cmpI x y := ⟨_, rfl⟩
  rw [← hq]
  unfold cmpI at hq
  have HQ := Lib.hid hq
  clear hq
  by_cases h1 : x < y
  · have HE : Hid (q = -1) := by rw [HQ.out, if_pos h1]; rfl
    go_enter Tryd.func38, Tryd.ntmps38
    go_wp2
    go_ret
    exact ⟨by rw [HE.out] <;> rfl, rfl⟩
  · by_cases h2 : y < x
    · have HE : Hid (q = 1) := by rw [HQ.out, if_neg h1, if_pos h2]; rfl
      go_enter Tryd.func38, Tryd.ntmps38
      go_wp2
      go_ret
      exact ⟨by rw [HE.out] <;> rfl, rfl⟩
    · have HE : Hid (q = 0) := by rw [HQ.out, if_neg h1, if_neg h2]; rfl
      go_enter Tryd.func38, Tryd.ntmps38
      go_wp2
      go_ret
      exact ⟨by rw [HE.out] <;> rfl, rfl⟩
theorem cmpI64_any (x y : Int) (w : World) : Calls Tryd.prog 40 #[.int .i64 x, .int .i64 y] w fun e w' => e = .returned (.int .i64 (cmpI x y)) ∧ w' = w := by
  obtain ⟨q, hq⟩ : ∃ q, q = cmpI x y := ⟨_, rfl⟩
  rw [← hq]
  unfold cmpI at hq
  have HQ := Lib.hid hq
  clear hq
  by_cases h1 : x < y
  · have HE : Hid (q = -1) := by rw [HQ.out, if_pos h1]; rfl
    go_enter Tryd.func40, Tryd.ntmps40
    go_wp2
    go_ret
    exact ⟨by rw [HE.out] <;> rfl, rfl⟩
  · by_cases h2 : y < x
    · have HE : Hid (q = 1) := by rw [HQ.out, if_neg h1, if_pos h2]; rfl
      go_enter Tryd.func40, Tryd.ntmps40
      go_wp2
      go_ret
      exact ⟨by rw [HE.out] <;> rfl, rfl⟩
    · have HE : Hid (q = 0) := by rw [HQ.out, if_neg h1, if_neg h2]; rfl
      go_enter Tryd.func40, Tryd.ntmps40
      go_wp2
      go_ret
      exact ⟨by rw [HE.out] <;> rfl, rfl⟩
theorem cmpInt_any (x y : Int) (w : World) : Calls Tryd.prog 60 #[.int .i64 x, .int .i64 y] w fun e w' => e = .returned (.int .i64 (cmpI x y)) ∧ w' = w := by
  obtain ⟨q, hq⟩ : ∃ q, q = cmpI x y := ⟨_, rfl⟩
  rw [← hq]
  unfold cmpI at hq
  have HQ := Lib.hid hq
  clear hq
  by_cases h1 : x < y
  · have HE : Hid (q = -1) := by rw [HQ.out, if_pos h1]; rfl
    go_enter Tryd.func60, Tryd.ntmps60
    go_wp2
    go_ret
    exact ⟨by rw [HE.out] <;> rfl, rfl⟩
  · by_cases h2 : y < x
    · have HE : Hid (q = 1) := by rw [HQ.out, if_neg h1, if_pos h2]; rfl
      go_enter Tryd.func60, Tryd.ntmps60
      go_wp2
      go_ret
      exact ⟨by rw [HE.out] <;> rfl, rfl⟩
    · have HE : Hid (q = 0) := by rw [HQ.out, if_neg h1, if_neg h2]; rfl
      go_enter Tryd.func60, Tryd.ntmps60
      go_wp2
      go_ret
      exact ⟨by rw [HE.out] <;> rfl, rfl⟩
theorem cmpStr_any (x y : ByteArray) (w : World) : Calls Tryd.prog 41 #[.string x, .string y] w fun e w' => e = .returned (.int .i64 (cmpB x.toList y.toList)) ∧ w' = w := by
  obtain ⟨q, hq⟩ : ∃ q, q = cmpB x.toList y.toList := ⟨_, rfl⟩
  rw [← hq]
  unfold cmpB at hq
  have hl := leq_less x.toList y.toList
  obtain ⟨a, ha⟩ : ∃ a, Op.bytesLess x.toList y.toList = a := ⟨_, rfl⟩
  obtain ⟨e, he⟩ : ∃ e, (x.toList == y.toList) = e := ⟨_, rfl⟩
  obtain ⟨b, hb⟩ : ∃ b, Op.bytesLess y.toList x.toList = b := ⟨_, rfl⟩
  rw [ha, he, hb] at hl
  rw [ha, hb] at hq
  have HQ := Lib.hid hq
  clear hq
  cases a <;> cases e <;> cases b <;> first | (cases hl; done) | skip
  all_goals
    clear hl
    go_enter Tryd.func41, Tryd.ntmps41
    go_wp2
    go_ret
    exact ⟨by rw [HQ.out] <;> rfl, rfl⟩
theorem number_any (b : Bool) (w : World) : Calls Tryd.prog 39 #[.bool b] w fun e w' => e = .returned (.int .i64 (num b)) ∧ w' = w := by
  cases b
  all_goals
    go_enter Tryd.func39, Tryd.ntmps39
    go_wp2
    go_ret
    exact ⟨rfl, rfl⟩

theorem cmpL_drop {α : Type} (f : α → α → Int) (a b : List α) (j : Nat) (x y : α) (hx : a[j]? = some x) (hy : b[j]? = some y) : cmpL f (a.drop j) (b.drop j) = if f x y ≠ 0 then f x y else cmpL f (a.drop (j + 1)) (b.drop (j + 1)) := by
  have h1 := (List.getElem?_eq_some_iff.1 hx).1
  have h2 := (List.getElem?_eq_some_iff.1 hy).1
  have e1 : a[j] = x := (List.getElem?_eq_some_iff.1 hx).2
  have e2 : b[j] = y := (List.getElem?_eq_some_iff.1 hy).2
  rw [List.drop_eq_getElem_cons h1, List.drop_eq_getElem_cons h2, e1, e2]
  rfl
theorem cmpL_end {α : Type} (f : α → α → Int) (a b : List α) (j : Nat) (h1 : j ≤ a.length) (h2 : j ≤ b.length) (h : a.length ≤ j ∨ b.length ≤ j) : cmpL f (a.drop j) (b.drop j) = cmpI a.length b.length := by
  rcases Nat.lt_trichotomy a.length b.length with hl | hl | hl
  · rw [List.drop_eq_nil_of_le (by omega : a.length ≤ j)]
    cases hb : b.drop j with
    | nil => have := congrArg List.length hb; rw [List.length_drop] at this; simp at this; omega
    | cons y q => unfold cmpL cmpI; rw [if_pos (by omega)]
  · rw [List.drop_eq_nil_of_le (by omega : a.length ≤ j), List.drop_eq_nil_of_le (by omega : b.length ≤ j)]
    unfold cmpL cmpI
    rw [if_neg (by omega), if_neg (by omega)]
  · rw [List.drop_eq_nil_of_le (by omega : b.length ≤ j)]
    cases hb : a.drop j with
    | nil => have := congrArg List.length hb; rw [List.length_drop] at this; simp at this; omega
    | cons y q => unfold cmpL cmpI; rw [if_neg (by omega), if_pos (by omega)]

/-- The cells of a list's values. -/
def LIn (w : World) (B n : Nat) (A : Option Addr) (l : List Val) : Prop :=
  ∀ (j : Nat) (x : Val), l[j]? = some x → ∃ g p ds, A = some ⟨g, p, none⟩ ∧ g < B ∧ w.rangeAt g (p + j * 6) ds ∧ VIn w B n ds x
def OIn (w : World) (B n : Nat) (A : Option Addr) (l : List (List UInt8 × Val)) : Prop :=
  ∀ (j : Nat) (m : List UInt8 × Val), l[j]? = some m → ∃ g p ds, A = some ⟨g, p, none⟩ ∧ g < B ∧ w.rangeAt g (p + j * 7) (.string (bs m.1) :: ds) ∧ m.1.length ≤ 140737488351232 ∧ VIn w B n ds m.2
theorem range6 {w : World} {g o : Nat} {a b c d e f : Value} (h : w.rangeAt g o [a, b, c, d, e, f]) : w.cell? ⟨g, o, none⟩ = some a ∧ w.cell? ⟨g, o + 1, none⟩ = some b ∧ w.cell? ⟨g, o + 2, none⟩ = some c ∧ w.cell? ⟨g, o + 3, none⟩ = some d ∧ w.cell? ⟨g, o + 4, none⟩ = some e ∧ w.cell? ⟨g, o + 5, none⟩ = some f :=
  ⟨h 0 _ rfl, h 1 _ rfl, h 2 _ rfl, h 3 _ rfl, h 4 _ rfl, h 5 _ rfl⟩

set_option maxRecDepth 100000 in
set_option maxHeartbeats 4000000 in
theorem lists_val (n : Nat) (A1 A2 : Option Addr) (la lb : List Val) (c1 c2 : Nat) (w : World) (h1 : LIn w w.heap.size n A1 la) (h2 : LIn w w.heap.size n A2 lb) (hl1 : la.length ≤ 140737488351232) (_hl2 : lb.length ≤ 140737488351232)
    (ih : ∀ (cs cs' : List Value) (v v' : Val) (W : World), VIn W W.heap.size n cs v → VIn W W.heap.size n cs' v' → Calls Tryd.prog 16 #[.agg cs.toArray, .agg cs'.toArray] W fun e w' => e = .returned (.int .i64 (cmp n v v')) ∧ Below W.heap.size W w') :
    Calls Tryd.prog 42 #[.slice A1 la.length c1, .slice A2 lb.length c2, .func (.func 16) #[] #[]] w fun e w' => e = .returned (.int .i64 (cmpL (cmp n) la lb)) ∧ Below w.heap.size w w' := by
  have IH := Lib.hid ih
  have H1 := Lib.hid h1
  have H2 := Lib.hid h2
  obtain ⟨M, hM⟩ : ∃ M, M = cmpL (cmp n) la lb := ⟨_, rfl⟩
  rw [← hM]
  have HM0 : Hid (M = cmpL (cmp n) (la.drop 0) (lb.drop 0)) := hM
  obtain ⟨z, hz, hz1, hz2, hz3⟩ : ∃ z : Nat, min (la.length : Int) (lb.length : Int) = (z : Int) ∧ z ≤ la.length ∧ z ≤ lb.length ∧ (la.length ≤ z ∨ lb.length ≤ z) := ⟨min la.length lb.length, by omega, by omega, by omega, by omega⟩
  have HZ3 := Lib.hid hz3
  clear ih h1 h2 hM hz3
  go_enter Tryd.func42, Tryd.ntmps42
  go_wp2
  clear hz
  go_loopw [14] (fun i wr => ∃ j : Nat, j ≤ z ∧ i = .int .i64 j ∧ Below w.heap.size w wr ∧ Hid (M = cmpL (cmp n) (la.drop j) (lb.drop j))) (fun i _ => z - (intOf i).toNat)
  case atStart => exact ⟨0, Nat.zero_le _, rfl, Below.refl _ _, HM0⟩
  case round =>
    obtain ⟨j, hj, rfl, br, HS⟩ := hrel
    clear HM0
    by_cases hlt : j < z
    · obtain ⟨x, hx⟩ : ∃ x, la[j]? = some x := ⟨_, List.getElem?_eq_getElem (by omega)⟩
      obtain ⟨y, hy⟩ : ∃ y, lb[j]? = some y := ⟨_, List.getElem?_eq_getElem (by omega)⟩
      obtain ⟨g, p, ds, hA, hg, hr, hxi⟩ := H1.out j x hx
      obtain ⟨g', p', ds', hA', hg', hr', hyi⟩ := H2.out j y hy
      obtain ⟨_, B1, e1, B2, e2, _, rfl, _⟩ := hxi.open
      obtain ⟨_, B3, e3, B4, e4, _, rfl, _⟩ := hyi.open
      have hstep := cmpL_drop (cmp n) la lb j x y hx hy
      obtain ⟨r, hrr⟩ : ∃ r, r = cmp n x y := ⟨_, rfl⟩
      have hir : ∀ W, Below w.heap.size w W → Calls Tryd.prog 16 #[.agg #[.int .i64 x.k, .bool x.b, .int .i64 x.i, .string (bs x.s), .slice B1 x.l.length e1, .slice B2 x.o.length e2], .agg #[.int .i64 y.k, .bool y.b, .int .i64 y.i, .string (bs y.s), .slice B3 y.l.length e3, .slice B4 y.o.length e4]] W fun e w' => e = .returned (.int .i64 (cmp n x y)) ∧ Below W.heap.size W w' := fun W hW => IH.out _ _ x y W (hxi.then hW) (hyi.then hW)
      rw [← hrr] at hstep hir
      have HI := Lib.hid hir
      have HX := Lib.hid hstep
      obtain ⟨a0, a1, a2, a3, a4, a5⟩ := range6 (w := wr) (fun i u hu => (br.cell (p := ⟨g, p + j * 6 + i, none⟩) hg).trans (hr i u hu))
      obtain ⟨d0, d1, d2, d3, d4, d5⟩ := range6 (w := wr) (fun i u hu => (br.cell (p := ⟨g', p' + j * 6 + i, none⟩) hg').trans (hr' i u hu))
      subst hA hA'
      have hja : (j : Int) < (la.length : Int) := by omega
      have hjb : (j : Int) < (lb.length : Int) := by omega
      clear hir hstep hrr hx hy hr hr' hxi hyi
      go_wp2
      go_still_tail 9, (by kernel_rfl)
      change wpList _ _ _ _ _ wr.drew
      have bd : Below w.heap.size w wr.drew := br.drew
      clear a0 a1 a2 a3 a4 a5 d0 d1 d2 d3 d4 d5
      go_wp2_with fail
      ((with_reducible refine (HI.out _ bd).mono ?_); rintro e w7 ⟨rfl, b7⟩)
      have k7 := bthen bd b7
      by_cases hr0 : r = 0
      · have hz : (r != 0) = false := by rw [hr0]; rfl
        have HS2 : Hid (M = cmpL (cmp n) (la.drop (j + 1)) (lb.drop (j + 1))) := by rw [HS.out, HX.out, if_neg (by simp [hr0])]; rfl
        clear hr0
        go_wp2
        go_roundw
        case rel => exact ⟨j + 1, by omega, by go_num, k7, HS2⟩
        case measure => simp [intOf]; omega
      · have hz : (r != 0) = true := by rw [bne_iff_ne]; omega
        have HE : Hid (M = r) := by rw [HS.out, HX.out, if_pos hr0]; rfl
        clear hr0
        go_wp2
        go_ret
        exact ⟨by rw [HE.out] <;> rfl, k7⟩
    · have HE : Hid (M = cmpI la.length lb.length) := by rw [HS.out, cmpL_end (cmp n) la lb j (by omega) (by omega) (by have := HZ3.out; omega)]; rfl
      go_wp2_with fail
      ((with_reducible refine (cmpInt_any _ _ _).mono ?_); rintro e w7 ⟨rfl, rfl⟩)
      go_wp2
      go_ret
      exact ⟨by rw [HE.out] <;> rfl, br⟩
theorem range7 {w : World} {g o : Nat} {a b c d e f k : Value} (h : w.rangeAt g o [a, b, c, d, e, f, k]) : w.cell? ⟨g, o, none⟩ = some a ∧ w.cell? ⟨g, o + 1, none⟩ = some b ∧ w.cell? ⟨g, o + 2, none⟩ = some c ∧ w.cell? ⟨g, o + 3, none⟩ = some d ∧ w.cell? ⟨g, o + 4, none⟩ = some e ∧ w.cell? ⟨g, o + 5, none⟩ = some f ∧ w.cell? ⟨g, o + 6, none⟩ = some k :=
  ⟨h 0 _ rfl, h 1 _ rfl, h 2 _ rfl, h 3 _ rfl, h 4 _ rfl, h 5 _ rfl, h 6 _ rfl⟩

set_option maxRecDepth 100000 in
set_option maxHeartbeats 4000000 in
theorem lists_mem (n : Nat) (A1 A2 : Option Addr) (la lb : List (List UInt8 × Val)) (c1 c2 : Nat) (w : World) (h1 : OIn w w.heap.size n A1 la) (h2 : OIn w w.heap.size n A2 lb) (hl1 : la.length ≤ 140737488351232) (_hl2 : lb.length ≤ 140737488351232)
    (ih : ∀ (cs cs' : List Value) (v v' : List UInt8 × Val) (W : World), VIn W W.heap.size n cs v.2 → VIn W W.heap.size n cs' v'.2 → Calls Tryd.prog 44 #[.agg (.string (bs v.1) :: cs).toArray, .agg (.string (bs v'.1) :: cs').toArray] W fun e w' => e = .returned (.int .i64 (cmpM (cmp n) v v')) ∧ Below W.heap.size W w') :
    Calls Tryd.prog 43 #[.slice A1 la.length c1, .slice A2 lb.length c2, .func (.func 44) #[] #[]] w fun e w' => e = .returned (.int .i64 (cmpL (cmpM (cmp n)) la lb)) ∧ Below w.heap.size w w' := by
  have IH := Lib.hid ih
  have H1 := Lib.hid h1
  have H2 := Lib.hid h2
  obtain ⟨M, hM⟩ : ∃ M, M = cmpL (cmpM (cmp n)) la lb := ⟨_, rfl⟩
  rw [← hM]
  have HM0 : Hid (M = cmpL (cmpM (cmp n)) (la.drop 0) (lb.drop 0)) := hM
  obtain ⟨z, hz, hz1, hz2, hz3⟩ : ∃ z : Nat, min (la.length : Int) (lb.length : Int) = (z : Int) ∧ z ≤ la.length ∧ z ≤ lb.length ∧ (la.length ≤ z ∨ lb.length ≤ z) := ⟨min la.length lb.length, by omega, by omega, by omega, by omega⟩
  have HZ3 := Lib.hid hz3
  clear ih h1 h2 hM hz3
  go_enter Tryd.func43, Tryd.ntmps43
  go_wp2
  clear hz
  go_loopw [14] (fun i wr => ∃ j : Nat, j ≤ z ∧ i = .int .i64 j ∧ Below w.heap.size w wr ∧ Hid (M = cmpL (cmpM (cmp n)) (la.drop j) (lb.drop j))) (fun i _ => z - (intOf i).toNat)
  case atStart => exact ⟨0, Nat.zero_le _, rfl, Below.refl _ _, HM0⟩
  case round =>
    obtain ⟨j, hj, rfl, br, HS⟩ := hrel
    clear HM0
    by_cases hlt : j < z
    · obtain ⟨x, hx⟩ : ∃ x, la[j]? = some x := ⟨_, List.getElem?_eq_getElem (by omega)⟩
      obtain ⟨y, hy⟩ : ∃ y, lb[j]? = some y := ⟨_, List.getElem?_eq_getElem (by omega)⟩
      obtain ⟨g, p, ds, hA, hg, hr, _, hxi⟩ := H1.out j x hx
      obtain ⟨g', p', ds', hA', hg', hr', _, hyi⟩ := H2.out j y hy
      obtain ⟨_, B1, e1, B2, e2, _, rfl, _⟩ := hxi.open
      obtain ⟨_, B3, e3, B4, e4, _, rfl, _⟩ := hyi.open
      have hstep := cmpL_drop (cmpM (cmp n)) la lb j x y hx hy
      obtain ⟨r, hrr⟩ : ∃ r, r = cmpM (cmp n) x y := ⟨_, rfl⟩
      have hir : ∀ W, Below w.heap.size w W → Calls Tryd.prog 44 #[.agg #[.string (bs x.1), .int .i64 x.2.k, .bool x.2.b, .int .i64 x.2.i, .string (bs x.2.s), .slice B1 x.2.l.length e1, .slice B2 x.2.o.length e2], .agg #[.string (bs y.1), .int .i64 y.2.k, .bool y.2.b, .int .i64 y.2.i, .string (bs y.2.s), .slice B3 y.2.l.length e3, .slice B4 y.2.o.length e4]] W fun e w' => e = .returned (.int .i64 (cmpM (cmp n) x y)) ∧ Below W.heap.size W w' := fun W hW => IH.out _ _ x y W (hxi.then hW) (hyi.then hW)
      rw [← hrr] at hstep hir
      have HI := Lib.hid hir
      have HX := Lib.hid hstep
      obtain ⟨a0, a1, a2, a3, a4, a5, a6⟩ := range7 (w := wr) (fun i u hu => (br.cell (p := ⟨g, p + j * 7 + i, none⟩) hg).trans (hr i u hu))
      obtain ⟨d0, d1, d2, d3, d4, d5, d6⟩ := range7 (w := wr) (fun i u hu => (br.cell (p := ⟨g', p' + j * 7 + i, none⟩) hg').trans (hr' i u hu))
      subst hA hA'
      have hja : (j : Int) < (la.length : Int) := by omega
      have hjb : (j : Int) < (lb.length : Int) := by omega
      clear hir hstep hrr hx hy hr hr' hxi hyi
      go_wp2
      go_still_tail 9, (by kernel_rfl)
      change wpList _ _ _ _ _ wr.drew
      have bd : Below w.heap.size w wr.drew := br.drew
      clear a0 a1 a2 a3 a4 a5 a6 d0 d1 d2 d3 d4 d5 d6
      go_wp2_with fail
      ((with_reducible refine (HI.out _ bd).mono ?_); rintro e w7 ⟨rfl, b7⟩)
      have k7 := bthen bd b7
      by_cases hr0 : r = 0
      · have hz : (r != 0) = false := by rw [hr0]; rfl
        have HS2 : Hid (M = cmpL (cmpM (cmp n)) (la.drop (j + 1)) (lb.drop (j + 1))) := by rw [HS.out, HX.out, if_neg (by simp [hr0])]; rfl
        clear hr0
        go_wp2
        go_roundw
        case rel => exact ⟨j + 1, by omega, by go_num, k7, HS2⟩
        case measure => simp [intOf]; omega
      · have hz : (r != 0) = true := by rw [bne_iff_ne]; omega
        have HE : Hid (M = r) := by rw [HS.out, HX.out, if_pos hr0]; rfl
        clear hr0
        go_wp2
        go_ret
        exact ⟨by rw [HE.out] <;> rfl, k7⟩
    · have HE : Hid (M = cmpI la.length lb.length) := by rw [HS.out, cmpL_end (cmpM (cmp n)) la lb j (by omega) (by omega) (by have := HZ3.out; omega)]; rfl
      go_wp2_with fail
      ((with_reducible refine (cmpInt_any _ _ _).mono ?_); rintro e w7 ⟨rfl, rfl⟩)
      go_wp2
      go_ret
      exact ⟨by rw [HE.out] <;> rfl, br⟩

theorem cmpB_zero (a b : List UInt8) : (a == b) = decide (cmpB a b = 0) := by
  have h := leq_less a b
  have h2 := leq_less b a
  unfold cmpB
  by_cases e : a = b
  · subst e
    have := cmpB_orders.self a
    unfold cmpB at this
    simp [this]
  · have e1 : (a == b) = false := by simp [e]
    have e2 : (b == a) = false := by simp [Ne.symm e]
    rw [e1, Bool.or_false] at h
    rw [e2, Bool.or_false] at h2
    rw [e1, h, h2]
    cases Op.bytesLess a b <;> simp_all

set_option maxRecDepth 100000 in
set_option maxHeartbeats 2000000 in
theorem cmpMem_any (n : Nat) (ih : ∀ (cs cs' : List Value) (v v' : Val) (W : World), VIn W W.heap.size n cs v → VIn W W.heap.size n cs' v' → Calls Tryd.prog 16 #[.agg cs.toArray, .agg cs'.toArray] W fun e w' => e = .returned (.int .i64 (cmp n v v')) ∧ Below W.heap.size W w')
    (cs cs' : List Value) (v v' : List UInt8 × Val) (w : World) (h1 : VIn w w.heap.size n cs v.2) (h2 : VIn w w.heap.size n cs' v'.2) :
    Calls Tryd.prog 44 #[.agg (.string (bs v.1) :: cs).toArray, .agg (.string (bs v'.1) :: cs').toArray] w fun e w' => e = .returned (.int .i64 (cmpM (cmp n) v v')) ∧ Below w.heap.size w w' := by
  obtain ⟨k, x⟩ := v
  obtain ⟨q, y⟩ := v'
  obtain ⟨_, B1, e1, B2, e2, -, rfl, -⟩ := h1.open
  obtain ⟨_, B3, e3, B4, e4, -, rfl, -⟩ := h2.open
  simp only at h1 h2 ⊢
  have hz := cmpB_zero k q
  obtain ⟨M, hM⟩ : ∃ M, M = cmpM (cmp n) (k, x) (q, y) := ⟨_, rfl⟩
  rw [← hM]
  unfold cmpM at hM
  simp only at hM
  have cs := fun W => cmpStr_any (bs k) (bs q) W
  have hi := fun W (hW : Below w.heap.size w W) => ih _ _ x y W (h1.then hW) (h2.then hW)
  rw [bs_toList, bs_toList] at cs
  have hb : ((bs k).toList == (bs q).toList) = (k == q) := bs_eql k q
  rw [hz] at hb
  obtain ⟨s, hs⟩ : ∃ s, s = bs k := ⟨_, rfl⟩
  obtain ⟨t, ht⟩ : ∃ s, s = bs q := ⟨_, rfl⟩
  rw [← hs, ← ht] at cs hb ⊢
  by_cases h0 : cmpB k q = 0
  · rw [decide_eq_true h0] at hb
    have HE : Hid (M = cmp n x y) := by rw [hM, if_neg (by simp [h0])]; rfl
    have HI := Lib.hid hi
    clear cs hs ht hi hM hz h0 h1 h2 ih
    go_enter Tryd.func44, Tryd.ntmps44
    go_wp2_with fail
    ((with_reducible refine (HI.out _ (((Below.refl _ w).alloc (Nat.le_refl _) _).alloc (by simp) _)).mono ?_); rintro e w1 ⟨rfl, b1⟩)
    have k1 := bthen (((Below.refl _ w).alloc (Nat.le_refl _) _).alloc (by simp) _) b1
    go_wp2
    go_ret
    exact ⟨by rw [HE.out] <;> rfl, k1⟩
  · rw [decide_eq_false h0] at hb
    have HE : Hid (M = cmpB k q) := by rw [hM, if_pos h0]; rfl
    have HC := Lib.hid cs
    clear cs hs ht hi hM hz h0 h1 h2 ih
    go_enter Tryd.func44, Tryd.ntmps44
    go_wp2_with fail
    ((with_reducible refine (HC.out _).mono ?_); rintro e w1 ⟨rfl, rfl⟩)
    go_wp2
    go_ret
    exact ⟨by rw [HE.out] <;> rfl, ((Below.refl _ w).alloc (Nat.le_refl _) _).alloc (by simp) _⟩

end Go.Proofs.YthaikagelloeoaaDoor
