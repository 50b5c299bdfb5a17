import Derived.Test.YthaikagelloeoaaDoorValOwn
import Derived.Test.YthaikagelloeoaaDoorValWithin
import Derived.Deep.RegionHeld3
import Derived.StillTailTactics
namespace Go.Proofs.YthaikagelloeoaaDoor
open Go.RowKit Val

theorem info_mem3 : (Tryd.prog.info? 46).map (fun i => (i.zero, i.size, i.bytes)) = some (some (.agg #[.string ⟨#[]⟩, .int .i64 0, .bool false, .int .i64 0, .string ⟨#[]⟩, .slice none 0 0, .slice none 0 0]), 7, 104) := by kernel_rfl
/-- A copy is handed back. -/
def Copied (w : World) (n : Nat) (v : Val) (e : Ending) (w' : World) : Prop := ∃ cs, e = .returned (.agg cs.toArray) ∧ VO w' (Span w.heap.size w'.heap.size none) n cs v ∧ Below w.heap.size w w'
def CopiedM (w : World) (n : Nat) (m : List UInt8 × Val) (e : Ending) (w' : World) : Prop := ∃ cs, e = .returned (.agg (.string (bs m.1) :: cs).toArray) ∧ VO w' (Span w.heap.size w'.heap.size none) n cs m.2 ∧ Below w.heap.size w w'
def CopiedL (w : World) (n : Nat) (l : List Val) (e : Ending) (w' : World) : Prop := ∃ A c, e = .returned (.slice A l.length c) ∧ l.length ≤ c ∧ LO w' (Span w.heap.size w'.heap.size none) n A l ∧ Below w.heap.size w w'
def CopiedO (w : World) (n : Nat) (l : List (List UInt8 × Val)) (e : Ending) (w' : World) : Prop := ∃ A c, e = .returned (.slice A l.length c) ∧ l.length ≤ c ∧ OO w' (Span w.heap.size w'.heap.size none) n A l ∧ Below w.heap.size w w'
def CopyMAt (f : FuncId) (n : Nat) : Prop := ∀ (cs : List Value) (m : List UInt8 × Val) (w : World), m.1.length ≤ 140737488351232 → VIn w w.heap.size n cs m.2 → Fit n m.2 → Calls Tryd.prog f #[.agg (.string (bs m.1) :: cs).toArray] w (CopiedM w n m)
def CopyAt (f : FuncId) (n : Nat) : Prop := ∀ (cs : List Value) (v : Val) (w : World), VIn w w.heap.size n cs v → Fit n v → Calls Tryd.prog f #[.agg cs.toArray] w (Copied w n v)

set_option maxRecDepth 100000 in
set_option maxHeartbeats 4000000 in
theorem copied_val (n : Nat) (ih : CopyAt 19 n) (A : Option Addr) (l : List Val) (c : Nat) (w : World) (hL : LIn w w.heap.size n A l) (hl : l.length * 88 ≤ 140737488351232) (hf : ∀ x ∈ l, Fit n x) :
    Calls Tryd.prog 45 #[.slice A l.length c, .func (.func 19) #[] #[]] w (CopiedL w n l) := by
  obtain ⟨i0, hi, hz0, hz1, hz2⟩ := info_parts info_val3
  have IH := Lib.hid ih
  have HL := Lib.hid hL
  have HF := Lib.hid hf
  clear hL ih hf
  by_cases h0 : l.length = 0
  · obtain rfl : l = [] := List.eq_nil_of_length_eq_zero h0
    clear h0
    go_enter Tryd.func45, Tryd.ntmps45
    go_wp2
    go_ret
    exact ⟨none, 0, rfl, Nat.le_refl _, fun j x h => by simp at h, Below.refl _ _⟩
  · have h0' : ((l.length : Int) == 0) = false := by simp; intro h; exact h0 (by rw [h]; rfl)
    clear h0
    go_enter Tryd.func45, Tryd.ntmps45
    go_wp2_with (at_make; refine wpList_make_own _ rfl _ _ 23 rfl w.heap.size 26 i0 _ 6 Tryd.underlying23 hi hz0 hz1 .i64 .i64 _ l.length rfl rfl rfl (by rw [hz2]; omega) (by unfold maxLen; omega) (Nat.le_refl _) ?_; intro w0 hown0 hgrow0)
    go_loopw [5, 16] (fun o i wr => ∃ (j : Nat) (xs : List Value), j ≤ l.length ∧ i = .int .i64 j ∧ wr.ownsRow w.heap.size 26 6 o j xs ∧ Hid (RowsO 6 (VO wr (Span w.heap.size wr.heap.size o.ownBlock) n) xs (l.take j)) ∧ Below w.heap.size w wr) (fun _ i _ => l.length - (intOf i).toNat)
    case atStart => exact ⟨0, [], Nat.zero_le _, rfl, hown0, RowsO.nil _ _, (Below.refl _ _).grown hgrow0 (Nat.le_refl _) (fun k h => by cases h)⟩
    case round =>
      obtain ⟨j, xs, hj, rfl, hown, HR, hb⟩ := hrel
      clear hown0 hgrow0
      by_cases hlt : j < l.length
      · obtain ⟨x, hx⟩ : ∃ x, l[j]? = some x := ⟨_, List.getElem?_eq_getElem hlt⟩
        have hxl : l[j] = x := (List.getElem?_eq_some_iff.1 hx).2
        obtain ⟨g, p, ds, hA, hgB, hr, hxi⟩ := HL.out j x hx
        have HT := Lib.hid (show l.take (j + 1) = l.take j ++ [x] by rw [List.take_succ_eq_append_getElem hlt, hxl])
        have HI := Lib.hid fun W (hW : Below w.heap.size w W) => IH.out ds x W (hxi.then hW) (HF.out x (List.mem_of_getElem? hx))
        obtain ⟨_, B1, e1, B2, e2, -, rfl, -⟩ := hxi.open
        obtain ⟨a0, a1, a2, a3, a4, a5⟩ := range6 (w := wr) (fun i u hu => (hb.cell (p := ⟨g, p + j * 6 + i, none⟩) hgB).trans (hr i u hu))
        subst hA
        clear hxl hx hr hxi
        have bb : Below w.heap.size w (wr.alloc (.cells #[.int .i64 x.k, .bool x.b, .int .i64 x.i, .string (bs x.s), .slice B1 x.l.length e1, .slice B2 x.o.length e2] 26)) := hb.alloc hb.size _
        go_wp2_with fail
        ((with_reducible refine (HI.out _ bb).mono ?_); rintro e w4 ⟨cs, rfl, hvo, b4⟩)
        have b5 : Below wr.heap.size wr w4 := ((Below.refl _ wr).alloc (Nat.le_refl _) _).trans (b4.mono (by simp))
        obtain ⟨_, B3, e3, B4, e4, -, rfl⟩ := hvo.open
        have hown4 := own_below hown b5 (Nat.le_refl _)
        have hown4a := hown4.alloc (.cells #[.int .i64 x.k, .bool x.b, .int .i64 x.i, .string (bs x.s), .slice B3 x.l.length e3, .slice B4 x.o.length e4] 26)
        have hsz := b5.size
        have hsz0 := hb.size
        have HV := Lib.hid hvo
        have h1 : ∀ u ∈ [Value.int .i64 x.k, .bool x.b, .int .i64 x.i, .string (bs x.s), .slice B3 x.l.length e3, .slice B4 x.o.length e4], u.oneCell' = true := by
          intro u hu
          simp only [List.mem_cons, List.not_mem_nil, or_false] at hu
          rcases hu with rfl | rfl | rfl | rfl | rfl | rfl <;> rfl
        have H1 := Lib.hid h1
        clear a0 a1 a2 a3 a4 a5 hvo h1 HI bb
        go_wp2_with (at_builtin; refine wpList_append_from _ rfl _ _ 23 rfl w.heap.size 26 i0 _ 6 88 Tryd.underlying23 hi hz0 hz1 hz2 rfl (by decide) _ j xs rfl hown4a (w4.heap.size + 1) (some ⟨w4.heap.size, 0, none⟩) 1 1 [.int .i64 x.k, .bool x.b, .int .i64 x.i, .string (bs x.s), .slice B3 x.l.length e3, .slice B4 x.o.length e4] rfl (At.new w4 _ _ 6 1 rfl) H1.out (by unfold maxLen; omega) (by omega) (by simp; omega) ?_; intro v' w5 hown5 hg hat)
        have hb5 : Below w.heap.size w w5 := ((hb.trans (b5.mono hsz0)).alloc (by omega) _).trans (grown_below hown4a hg (by simp; omega))
        have HR5 := Lib.hid (rows_step (P := fun w S ds x => VO w S n ds x) (@fun _ _ _ _ hS hk _ _ h => VO.keep hS hk h) HR.out hown.lt b5 (by simp) hb.size HV.out rfl hg hat)
        rw [← HT.out] at HR5
        clear hg hat hown hown4 hown4a HR HV b4 b5 hsz hsz0 hb
        go_roundw
        case rel => exact ⟨j + 1, _, by omega, by go_num, hown5, HR5, hb5⟩
        case measure => simp [intOf]; omega
      · have hj2 : l.take j = l := List.take_of_length_le (by omega)
        have hj3 : j = l.length := by omega
        rw [hj2] at HR
        subst hj3
        clear hj2
        obtain ⟨A', c', rfl, hc', -, -⟩ := own_slice hown
        have hlo := LO.of_own hown HR.out (fun _ hg => hg.none)
        clear HR hown
        go_wp2
        go_ret
        exact ⟨A', c', rfl, hc', hlo, hb⟩
set_option maxRecDepth 100000 in
set_option maxHeartbeats 4000000 in
theorem copied_mem (n : Nat) (ih : CopyMAt 47 n) (A : Option Addr) (l : List (List UInt8 × Val)) (c : Nat) (w : World) (hL : OIn w w.heap.size n A l) (hl : l.length * 104 ≤ 140737488351232) (hf : ∀ x ∈ l, Fit n x.2) :
    Calls Tryd.prog 46 #[.slice A l.length c, .func (.func 47) #[] #[]] w (CopiedO w n l) := by
  obtain ⟨i0, hi, hz0, hz1, hz2⟩ := info_parts info_mem3
  have IH := Lib.hid ih
  have HL := Lib.hid hL
  have HF := Lib.hid hf
  clear hL ih hf
  by_cases h0 : l.length = 0
  · obtain rfl : l = [] := List.eq_nil_of_length_eq_zero h0
    clear h0
    go_enter Tryd.func46, Tryd.ntmps46
    go_wp2
    go_ret
    exact ⟨none, 0, rfl, Nat.le_refl _, fun j x h => by simp at h, Below.refl _ _⟩
  · have h0' : ((l.length : Int) == 0) = false := by simp; intro h; exact h0 (by rw [h]; rfl)
    clear h0
    go_enter Tryd.func46, Tryd.ntmps46
    go_wp2_with (at_make; refine wpList_make_own _ rfl _ _ 24 rfl w.heap.size 46 i0 _ 7 Tryd.underlying24 hi hz0 hz1 .i64 .i64 _ l.length rfl rfl rfl (by rw [hz2]; omega) (by unfold maxLen; omega) (Nat.le_refl _) ?_; intro w0 hown0 hgrow0)
    go_loopw [5, 16] (fun o i wr => ∃ (j : Nat) (xs : List Value), j ≤ l.length ∧ i = .int .i64 j ∧ wr.ownsRow w.heap.size 46 7 o j xs ∧ Hid (RowsO 7 (MO wr (Span w.heap.size wr.heap.size o.ownBlock) n) xs (l.take j)) ∧ Below w.heap.size w wr) (fun _ i _ => l.length - (intOf i).toNat)
    case atStart => exact ⟨0, [], Nat.zero_le _, rfl, hown0, RowsO.nil _ _, (Below.refl _ _).grown hgrow0 (Nat.le_refl _) (fun k h => by cases h)⟩
    case round =>
      obtain ⟨j, xs, hj, rfl, hown, HR, hb⟩ := hrel
      clear hown0 hgrow0
      by_cases hlt : j < l.length
      · obtain ⟨x, hx⟩ : ∃ x, l[j]? = some x := ⟨_, List.getElem?_eq_getElem hlt⟩
        have hxl : l[j] = x := (List.getElem?_eq_some_iff.1 hx).2
        obtain ⟨g, p, ds, hA, hgB, hr, hkl, hxi⟩ := HL.out j x hx
        obtain ⟨xk, x⟩ := x
        have HT := Lib.hid (show l.take (j + 1) = l.take j ++ [(xk, x)] by rw [List.take_succ_eq_append_getElem hlt, hxl])
        have HI := Lib.hid fun W (hW : Below w.heap.size w W) => IH.out ds (xk, x) W hkl (hxi.then hW) (HF.out _ (List.mem_of_getElem? hx))
        obtain ⟨_, B1, e1, B2, e2, -, rfl, -⟩ := hxi.open
        obtain ⟨a0, a1, a2, a3, a4, a5, a6⟩ := range7 (w := wr) (fun i u hu => (hb.cell (p := ⟨g, p + j * 7 + i, none⟩) hgB).trans (hr i u hu))
        subst hA
        clear hxl hx hr hxi
        have bb : Below w.heap.size w (wr.alloc (.cells #[.string (bs xk), .int .i64 x.k, .bool x.b, .int .i64 x.i, .string (bs x.s), .slice B1 x.l.length e1, .slice B2 x.o.length e2] 46)) := hb.alloc hb.size _
        go_wp2_with fail
        ((with_reducible refine (HI.out _ bb).mono ?_); rintro e w4 ⟨cs, rfl, hvo, b4⟩)
        have b5 : Below wr.heap.size wr w4 := ((Below.refl _ wr).alloc (Nat.le_refl _) _).trans (b4.mono (by simp))
        obtain ⟨_, B3, e3, B4, e4, -, rfl⟩ := hvo.open
        have hown4 := own_below hown b5 (Nat.le_refl _)
        have hown4a := hown4.alloc (.cells #[.string (bs xk), .int .i64 x.k, .bool x.b, .int .i64 x.i, .string (bs x.s), .slice B3 x.l.length e3, .slice B4 x.o.length e4] 46)
        have hsz := b5.size
        have hsz0 := hb.size
        have HV := Lib.hid hvo
        have h1 : ∀ u ∈ [Value.string (bs xk), .int .i64 x.k, .bool x.b, .int .i64 x.i, .string (bs x.s), .slice B3 x.l.length e3, .slice B4 x.o.length e4], u.oneCell' = true := by
          intro u hu
          simp only [List.mem_cons, List.not_mem_nil, or_false] at hu
          rcases hu with rfl | rfl | rfl | rfl | rfl | rfl | rfl <;> rfl
        have H1 := Lib.hid h1
        clear a0 a1 a2 a3 a4 a5 a6 hvo h1 HI bb
        go_wp2_with (at_builtin; refine wpList_append_from _ rfl _ _ 24 rfl w.heap.size 46 i0 _ 7 104 Tryd.underlying24 hi hz0 hz1 hz2 rfl (by decide) _ j xs rfl hown4a (w4.heap.size + 1) (some ⟨w4.heap.size, 0, none⟩) 1 1 [.string (bs xk), .int .i64 x.k, .bool x.b, .int .i64 x.i, .string (bs x.s), .slice B3 x.l.length e3, .slice B4 x.o.length e4] rfl (At.new w4 _ _ 7 1 rfl) H1.out (by unfold maxLen; omega) (by omega) (by simp; omega) ?_; intro v' w5 hown5 hg hat)
        have hb5 : Below w.heap.size w w5 := ((hb.trans (b5.mono hsz0)).alloc (by omega) _).trans (grown_below hown4a hg (by simp; omega))
        have HR5 := Lib.hid (rows_step (P := fun w S ds x => MO w S n ds x) (@fun _ _ _ _ hS hk _ _ h => MO.keep hS hk h) HR.out hown.lt b5 (by simp) hb.size (x := (xk, x)) ⟨_, rfl, hkl, HV.out⟩ rfl hg hat)
        rw [← HT.out] at HR5
        clear hg hat hown hown4 hown4a HR HV b4 b5 hsz hsz0 hb
        go_roundw
        case rel => exact ⟨j + 1, _, by omega, by go_num, hown5, HR5, hb5⟩
        case measure => simp [intOf]; omega
      · have hj2 : l.take j = l := List.take_of_length_le (by omega)
        have hj3 : j = l.length := by omega
        rw [hj2] at HR
        subst hj3
        clear hj2
        obtain ⟨A', c', rfl, hc', -, -⟩ := own_slice hown
        have hlo := OO.of_own hown HR.out (fun _ hg => hg.none)
        clear HR hown
        go_wp2
        go_ret
        exact ⟨A', c', rfl, hc', hlo, hb⟩

theorem box66f {w w1 : World} {a b c d e f a' b' c' d' e' f' : Value} {t : TypeId} (hb : Below (w.heap.size + 2) ((w.alloc (.cells #[a, b, c, d, e, f] t)).alloc (.cells #[a', b', c', d', e', f'] t)) w1) :
    (w1.cell? ⟨w.heap.size, 0, none⟩ = some a ∧ w1.cell? ⟨w.heap.size, 1, none⟩ = some b ∧ w1.cell? ⟨w.heap.size, 2, none⟩ = some c ∧ w1.cell? ⟨w.heap.size, 3, none⟩ = some d ∧ w1.cell? ⟨w.heap.size, 4, none⟩ = some e ∧ w1.cell? ⟨w.heap.size, 5, none⟩ = some f) ∧
    (w1.cell? ⟨w.heap.size + 1, 0, none⟩ = some a' ∧ w1.cell? ⟨w.heap.size + 1, 1, none⟩ = some b' ∧ w1.cell? ⟨w.heap.size + 1, 2, none⟩ = some c' ∧ w1.cell? ⟨w.heap.size + 1, 3, none⟩ = some d' ∧ w1.cell? ⟨w.heap.size + 1, 4, none⟩ = some e' ∧ w1.cell? ⟨w.heap.size + 1, 5, none⟩ = some f') ∧
    (∀ g o, g = w.heap.size ∨ g = w.heap.size + 1 → w1.frozen? ⟨g, o, none⟩ = false) := by
  have h : w1.heap[w.heap.size]? = some (.cells #[a, b, c, d, e, f] t (0, 0)) := (hb.block w.heap.size (by omega)).trans (heap_alloc2_old w _ _)
  have h' : w1.heap[w.heap.size + 1]? = some (.cells #[a', b', c', d', e', f'] t (0, 0)) := (hb.block (w.heap.size + 1) (by omega)).trans (heap_alloc2_new w _ _)
  refine ⟨⟨?_, ?_, ?_, ?_, ?_, ?_⟩, ⟨?_, ?_, ?_, ?_, ?_, ?_⟩, fun g o hg => by rcases hg with rfl | rfl <;> unfold World.frozen? <;> first | (rw [h]; simp) | (rw [h']; simp)⟩
  · rw [cell_of_row _ _ 0 _ t (0, 0) h]; rfl
  · rw [cell_of_row _ _ 1 _ t (0, 0) h]; rfl
  · rw [cell_of_row _ _ 2 _ t (0, 0) h]; rfl
  · rw [cell_of_row _ _ 3 _ t (0, 0) h]; rfl
  · rw [cell_of_row _ _ 4 _ t (0, 0) h]; rfl
  · rw [cell_of_row _ _ 5 _ t (0, 0) h]; rfl
  · rw [cell_of_row _ _ 0 _ t (0, 0) h']; rfl
  · rw [cell_of_row _ _ 1 _ t (0, 0) h']; rfl
  · rw [cell_of_row _ _ 2 _ t (0, 0) h']; rfl
  · rw [cell_of_row _ _ 3 _ t (0, 0) h']; rfl
  · rw [cell_of_row _ _ 4 _ t (0, 0) h']; rfl
  · rw [cell_of_row _ _ 5 _ t (0, 0) h']; rfl
theorem box77 {w w1 : World} {a b c d e f g a' b' c' d' e' f' g' : Value} {t : TypeId} (hb : Below (w.heap.size + 2) ((w.alloc (.cells #[a, b, c, d, e, f, g] t)).alloc (.cells #[a', b', c', d', e', f', g'] t)) w1) :
    (w1.cell? ⟨w.heap.size, 0, none⟩ = some a ∧ w1.cell? ⟨w.heap.size, 1, none⟩ = some b ∧ w1.cell? ⟨w.heap.size, 2, none⟩ = some c ∧ w1.cell? ⟨w.heap.size, 3, none⟩ = some d ∧ w1.cell? ⟨w.heap.size, 4, none⟩ = some e ∧ w1.cell? ⟨w.heap.size, 5, none⟩ = some f ∧ w1.cell? ⟨w.heap.size, 6, none⟩ = some g) ∧
    (w1.cell? ⟨w.heap.size + 1, 0, none⟩ = some a' ∧ w1.cell? ⟨w.heap.size + 1, 1, none⟩ = some b' ∧ w1.cell? ⟨w.heap.size + 1, 2, none⟩ = some c' ∧ w1.cell? ⟨w.heap.size + 1, 3, none⟩ = some d' ∧ w1.cell? ⟨w.heap.size + 1, 4, none⟩ = some e' ∧ w1.cell? ⟨w.heap.size + 1, 5, none⟩ = some f' ∧ w1.cell? ⟨w.heap.size + 1, 6, none⟩ = some g') ∧
    (∀ o, w1.frozen? ⟨w.heap.size + 1, o, none⟩ = false) := by
  have h : w1.heap[w.heap.size]? = some (.cells #[a, b, c, d, e, f, g] t (0, 0)) := (hb.block w.heap.size (by omega)).trans (heap_alloc2_old w _ _)
  have h' : w1.heap[w.heap.size + 1]? = some (.cells #[a', b', c', d', e', f', g'] t (0, 0)) := (hb.block (w.heap.size + 1) (by omega)).trans (heap_alloc2_new w _ _)
  refine ⟨⟨?_, ?_, ?_, ?_, ?_, ?_, ?_⟩, ⟨?_, ?_, ?_, ?_, ?_, ?_, ?_⟩, fun o => by unfold World.frozen?; rw [h']; simp⟩
  · rw [cell_of_row _ _ 0 _ t (0, 0) h]; rfl
  · rw [cell_of_row _ _ 1 _ t (0, 0) h]; rfl
  · rw [cell_of_row _ _ 2 _ t (0, 0) h]; rfl
  · rw [cell_of_row _ _ 3 _ t (0, 0) h]; rfl
  · rw [cell_of_row _ _ 4 _ t (0, 0) h]; rfl
  · rw [cell_of_row _ _ 5 _ t (0, 0) h]; rfl
  · rw [cell_of_row _ _ 6 _ t (0, 0) h]; rfl
  · rw [cell_of_row _ _ 0 _ t (0, 0) h']; rfl
  · rw [cell_of_row _ _ 1 _ t (0, 0) h']; rfl
  · rw [cell_of_row _ _ 2 _ t (0, 0) h']; rfl
  · rw [cell_of_row _ _ 3 _ t (0, 0) h']; rfl
  · rw [cell_of_row _ _ 4 _ t (0, 0) h']; rfl
  · rw [cell_of_row _ _ 5 _ t (0, 0) h']; rfl
  · rw [cell_of_row _ _ 6 _ t (0, 0) h']; rfl

set_option maxRecDepth 100000 in
set_option maxHeartbeats 4000000 in
theorem copy1_any (n : Nat) (ih : CopyAt 19 n) : CopyMAt 47 n := by
  intro cs m w hk hv hf
  obtain ⟨k, x⟩ := m
  have hI := fun W (hW : Below w.heap.size w W) => ih cs x W (hv.then hW) hf
  obtain ⟨_, B1, e1, B2, e2, -, rfl, -⟩ := hv.open
  obtain ⟨w1, hw1⟩ : ∃ w1, (w.alloc (.cells #[.string (bs k), .int .i64 x.k, .bool x.b, .int .i64 x.i, .string (bs x.s), .slice B1 x.l.length e1, .slice B2 x.o.length e2] 46)).alloc (.cells #[.string ⟨#[]⟩, .int .i64 0, .bool false, .int .i64 0, .string ⟨#[]⟩, .slice none 0 0, .slice none 0 0] 46) = w1 := ⟨_, rfl⟩
  have b1 : Below w.heap.size w w1 := by rw [← hw1]; exact ((Below.refl _ w).alloc (Nat.le_refl _) _).alloc (by simp) _
  have z1 : w1.heap.size = w.heap.size + 2 := by rw [← hw1]; simp
  have hbox : Hid (∀ W, Below w1.heap.size w1 W → _) := fun W hW => by
    rw [z1, ← hw1] at hW
    exact box77 hW
  obtain ⟨⟨q0, q1, q2, q3, q4, q5, q6⟩, -, -⟩ := hbox.out w1 (Below.refl _ _)
  have HW := Lib.hid hw1
  have HI1 := Lib.hid fun W (hW : Below w1.heap.size w1 W) => (hI W (bthen b1 hW)).mono (R' := fun e w' => Copied W n x e w' ∧ Below w1.heap.size w1 w') fun e w' h => ⟨h, by obtain ⟨_, _, _, hb⟩ := h; exact bthen hW hb⟩
  have hbr := Below.refl w1.heap.size w1
  clear hv hf ih hI hw1
  go_enter Tryd.func47, Tryd.ntmps47
  go_wp2_with fail
  rw [HW.out]
  go_region_held3 (fun w' => w'.cell? ⟨w.heap.size, 0, none⟩ = some (.string (bs k)) ∧ w'.cell? ⟨w.heap.size, 1, none⟩ = some (.int .i64 x.k) ∧ w'.cell? ⟨w.heap.size, 2, none⟩ = some (.bool x.b) ∧ w'.cell? ⟨w.heap.size, 3, none⟩ = some (.int .i64 x.i) ∧ w'.cell? ⟨w.heap.size, 4, none⟩ = some (.string (bs x.s)) ∧ w'.cell? ⟨w.heap.size, 5, none⟩ = some (.slice B1 x.l.length e1) ∧ w'.cell? ⟨w.heap.size, 6, none⟩ = some (.slice B2 x.o.length e2))
    (go_keep)
    (first
      | (go_at_call 19; (with_reducible refine (HI1.out _ (by first | assumption | exact Below.drew (by assumption))).mono ?_); rintro e w4 ⟨⟨cs, rfl, hvo, b4⟩, b5⟩; obtain ⟨_, B3, e3, B4, e4, -, rfl⟩ := hvo.open; obtain ⟨⟨q0, q1, q2, q3, q4, q5, q6⟩, ⟨p0, p1, p2, p3, p4, p5, p6⟩, hfz⟩ := hbox.out _ b5; have HV := Lib.hid (And.intro hvo b4); clear hvo b4))
  go_wp2
  have hne : ∀ g, Span w1.heap.size w4.heap.size none g → g ≠ w.heap.size + 1 := fun g hg => by have := hg.1; omega
  have hw : w.heap.size ≤ w.heap.size + 1 := by omega
  refine bodyPost_ret (v := .agg #[.string (bs k), .int .i64 x.k, .bool x.b, .int .i64 x.i, .string (bs x.s), .slice B3 x.l.length e3, .slice B4 x.o.length e4]) (by simp [results, Tryd.results47, go_sem, p0, p1, p2, p3, p4, p5, p6]) rfl ⟨[.int .i64 x.k, .bool x.b, .int .i64 x.i, .string (bs x.s), .slice B3 x.l.length e3, .slice B4 x.o.length e4], rfl, ?_, ?_⟩
  · refine HV.out.1.keep (fun g hg => ⟨?_, ?_, hg.2.2⟩) (((((((SameAt.set (SameAt.refl _ _) hne _).set hne _).set hne _).set hne _).set hne _).set hne _).set hne _)
    · have h1 : w1.heap.size ≤ g := hg.1
      omega
    · have h1 := hg.2.1
      simpa [World.setCell] using h1
  · exact ((((((((b1.trans (b5.mono b1.size)).setCell hw _).setCell hw _).setCell hw _).setCell hw _).setCell hw _).setCell hw _).setCell hw _)

set_option maxRecDepth 100000 in
set_option maxHeartbeats 4000000 in
theorem copy_any : ∀ n, CopyAt 19 n := by
  intro n
  induction n with
  | zero => intro cs v w h; exact absurd h (by simp [VIn])
  | succ n ih =>
    intro cs v w hv hf
    have hf0 := hf
    obtain ⟨hf1, hf2, hf3, hf4⟩ := hf
    obtain ⟨n', A1, c1, A2, c2, e, rfl, hk, hi, hs, hl, ho, hc1, hc2, hL, hO⟩ := hv.open
    obtain rfl : n = n' := by omega
    obtain ⟨w1, hw1⟩ : ∃ w1, (w.alloc (.cells #[.int .i64 v.k, .bool v.b, .int .i64 v.i, .string (bs v.s), .slice A1 v.l.length c1, .slice A2 v.o.length c2] 26)).alloc (.cells #[.int .i64 0, .bool false, .int .i64 0, .string ⟨#[]⟩, .slice none 0 0, .slice none 0 0] 26) = w1 := ⟨_, rfl⟩
    have b1 : Below w.heap.size w w1 := by rw [← hw1]; exact ((Below.refl _ w).alloc (Nat.le_refl _) _).alloc (by simp) _
    have z1 : w1.heap.size = w.heap.size + 2 := by rw [← hw1]; simp
    have hbox : Hid (∀ W, Below w1.heap.size w1 W → _) := fun W hW => by
      rw [z1, ← hw1] at hW
      exact box66f hW
    obtain ⟨⟨q0, q1, q2, q3, q4, q5⟩, -, -⟩ := hbox.out w1 (Below.refl _ _)
    have HW := Lib.hid hw1
    have hL1 : ∀ W, Below w.heap.size w W → LIn W W.heap.size n A1 v.l := fun W hW => LIn.then (w := w) hL hW
    have hO1 : ∀ W, Below w.heap.size w W → OIn W W.heap.size n A2 v.o := fun W hW j m hm => by
      obtain ⟨g, p, ds, e1, e2, e3, e4, e5⟩ := hO j m hm
      exact ⟨g, p, ds, e1, by have := hW.size; omega, fun i u hu => (hW.cell (p := ⟨g, p + j * 7 + i, none⟩) e2).trans (e3 i u hu), e4, e5.then hW⟩
    have HC1 := Lib.hid fun W (hW : Below w.heap.size w W) => copied_val n ih A1 v.l c1 W (hL1 W hW) hf1 hf3
    have HC2 := Lib.hid fun W (hW : Below w.heap.size w W) => copied_mem n (copy1_any n ih) A2 v.o c2 W (hO1 W hW) hf2 hf4
    have HB := Lib.hid (And.intro hk (And.intro hi (And.intro hs (And.intro hl ho))))
    clear hv hf0 hf1 hf2 hf3 hf4 ih hL hO hL1 hO1 hw1 hk hi hs hl ho hc1 hc2 e
    go_enter Tryd.func19, Tryd.ntmps19
    go_wp2_with fail
    rw [HW.out]
    ((with_reducible refine (HC1.out _ b1).mono ?_); rintro e w2 ⟨B1, e1, rfl, hle1, hlo, b2⟩)
    have k2 := bthen b1 b2
    obtain ⟨⟨q0, q1, q2, q3, q4, q5⟩, ⟨p0, p1, p2, p3, p4, p5⟩, hfz⟩ := hbox.out w2 b2
    have HLO := Lib.hid hlo
    obtain ⟨W2, hW2⟩ : ∃ W2, w2.setCell ⟨w.heap.size, 4, none⟩ (.slice B1 v.l.length e1) = W2 := ⟨_, rfl⟩
    have bW2 : Below w.heap.size w W2 := by rw [← hW2]; exact k2.setCell (Nat.le_refl _) _
    have zW2 : W2.heap.size = w2.heap.size := by rw [← hW2]; simp [World.setCell]
    have z12 := b2.size
    have hs2 : SameAt (Span w1.heap.size w2.heap.size none) w2 W2 := by rw [← hW2]; exact (SameAt.refl _ _).set (fun g hg => by have := hg.1; show g ≠ w.heap.size; omega) _
    have hbox3 : Hid (∀ W, Below W2.heap.size W2 W → (W.cell? ⟨w.heap.size, 0, none⟩ = some (.int .i64 v.k) ∧ W.cell? ⟨w.heap.size, 1, none⟩ = some (.bool v.b) ∧ W.cell? ⟨w.heap.size, 2, none⟩ = some (.int .i64 v.i) ∧ W.cell? ⟨w.heap.size, 3, none⟩ = some (.string (bs v.s)) ∧ W.cell? ⟨w.heap.size, 4, none⟩ = some (.slice B1 v.l.length e1) ∧ W.cell? ⟨w.heap.size, 5, none⟩ = some (.slice A2 v.o.length c2)) ∧
        (W.cell? ⟨w.heap.size + 1, 0, none⟩ = some (.int .i64 0) ∧ W.cell? ⟨w.heap.size + 1, 1, none⟩ = some (.bool false) ∧ W.cell? ⟨w.heap.size + 1, 2, none⟩ = some (.int .i64 0) ∧ W.cell? ⟨w.heap.size + 1, 3, none⟩ = some (.string ⟨#[]⟩) ∧ W.cell? ⟨w.heap.size + 1, 4, none⟩ = some (.slice none 0 0) ∧ W.cell? ⟨w.heap.size + 1, 5, none⟩ = some (.slice none 0 0)) ∧
        (∀ g o, g = w.heap.size ∨ g = w.heap.size + 1 → W.frozen? ⟨g, o, none⟩ = false)) := fun W hW => by
      have hc : ∀ g o, g < w.heap.size + 2 → W.cell? ⟨g, o, none⟩ = (w2.setCell ⟨w.heap.size, 4, none⟩ (.slice B1 v.l.length e1)).cell? ⟨g, o, none⟩ := fun g o hg => by rw [hW2]; exact hW.cell (p := ⟨g, o, none⟩) (by show g < _; omega)
      refine ⟨⟨?_, ?_, ?_, ?_, ?_, ?_⟩, ⟨?_, ?_, ?_, ?_, ?_, ?_⟩, fun g o hg => ?_⟩
      · rw [hc _ _ (by omega), World.cell?_setCell_other _ _ _ _ (by simp), q0]
      · rw [hc _ _ (by omega), World.cell?_setCell_other _ _ _ _ (by simp), q1]
      · rw [hc _ _ (by omega), World.cell?_setCell_other _ _ _ _ (by simp), q2]
      · rw [hc _ _ (by omega), World.cell?_setCell_other _ _ _ _ (by simp), q3]
      · rw [hc _ _ (by omega), World.cell?_setCell_same _ _ _ q4]
      · rw [hc _ _ (by omega), World.cell?_setCell_other _ _ _ _ (by simp), q5]
      · rw [hc _ _ (by omega), World.cell?_setCell_other _ _ _ _ (by simp), p0]
      · rw [hc _ _ (by omega), World.cell?_setCell_other _ _ _ _ (by simp), p1]
      · rw [hc _ _ (by omega), World.cell?_setCell_other _ _ _ _ (by simp), p2]
      · rw [hc _ _ (by omega), World.cell?_setCell_other _ _ _ _ (by simp), p3]
      · rw [hc _ _ (by omega), World.cell?_setCell_other _ _ _ _ (by simp), p4]
      · rw [hc _ _ (by omega), World.cell?_setCell_other _ _ _ _ (by simp), p5]
      · rw [hW.frozen (p := ⟨g, o, none⟩) (by show g < _; omega), ← hW2, World.frozen?_setCell]; exact hfz g o hg
    have hf1 := hfz w.heap.size 4 (.inl rfl)
    have HW2 := Lib.hid hW2
    have HS2 := Lib.hid hs2
    clear hlo hW2 hs2 hfz p0 p1 p2 p3 p4 p5 hbox
    go_wp2_with fail
    rw [HW2.out]
    ((with_reducible refine (HC2.out _ bW2).mono ?_); rintro e w3 ⟨B2, e2, rfl, hle2, hoo, b3⟩)
    clear q0 q1 q2 q3 q4 q5 hf1
    obtain ⟨⟨q0, q1, q2, q3, q4, q5⟩, ⟨p0, p1, p2, p3, p4, p5⟩, hfz⟩ := hbox3.out w3 b3
    have hf1 := hfz w.heap.size 5 (.inl rfl)
    have hf2 := fun o => hfz (w.heap.size + 1) o (.inr rfl)
    have z3 := b3.size
    have HOO := Lib.hid hoo
    have k3 := bthen bW2 b3
    clear hoo hfz hbox3
    go_wp2
    have hn1 : ∀ g, Span w1.heap.size w2.heap.size none g → g ≠ w.heap.size := fun g hg => by have := hg.1; omega
    have hn2 : ∀ g, Span w1.heap.size w2.heap.size none g → g ≠ w.heap.size + 1 := fun g hg => by have := hg.1; omega
    have hn3 : ∀ g, Span W2.heap.size w3.heap.size none g → g ≠ w.heap.size := fun g hg => by have := hg.1; omega
    have hn4 : ∀ g, Span W2.heap.size w3.heap.size none g → g ≠ w.heap.size + 1 := fun g hg => by have := hg.1; omega
    have hw : w.heap.size ≤ w.heap.size + 1 := by omega
    refine bodyPost_ret (v := .agg #[.int .i64 v.k, .bool v.b, .int .i64 v.i, .string (bs v.s), .slice B1 v.l.length e1, .slice B2 v.o.length e2]) (by simp [results, Tryd.results19, go_sem, p0, p1, p2, p3, p4, p5]) rfl ⟨[.int .i64 v.k, .bool v.b, .int .i64 v.i, .string (bs v.s), .slice B1 v.l.length e1, .slice B2 v.o.length e2], rfl, ⟨B1, e1, B2, e2, rfl, HB.out.1, HB.out.2.1, HB.out.2.2.1, HB.out.2.2.2.1, HB.out.2.2.2.2, hle1, hle2, ?_, ?_⟩, ?_⟩
    · have hsm := ((((((((SameAt.refl (Span w1.heap.size w2.heap.size none) w3).set hn1 (.slice B2 v.o.length e2) (p := ⟨w.heap.size, 5, none⟩)).set hn2 (.int .i64 v.k) (p := ⟨w.heap.size + 1, 0, none⟩)).set hn2 (.bool v.b) (p := ⟨w.heap.size + 1, 1, none⟩)).set hn2 (.int .i64 v.i) (p := ⟨w.heap.size + 1, 2, none⟩)).set hn2 (.string (bs v.s)) (p := ⟨w.heap.size + 1, 3, none⟩)).set hn2 (.slice B1 v.l.length e1) (p := ⟨w.heap.size + 1, 4, none⟩)).set hn2 (.slice B2 v.o.length e2) (p := ⟨w.heap.size + 1, 5, none⟩))
      refine LO.keep (fun g hg => ⟨?_, ?_, hg.2.2⟩) (HS2.out.trans (SameAt.trans (SameAt.below b3 fun g hg => by have := hg.2.1; omega) hsm)) HLO.out
      · have h1 : w1.heap.size ≤ g := hg.1
        omega
      · have h1 := hg.2.1
        have h2 : g < w3.heap.size := by omega
        simpa [World.setCell] using h2
    · have hsm := ((((((((SameAt.refl (Span W2.heap.size w3.heap.size none) w3).set hn3 (.slice B2 v.o.length e2) (p := ⟨w.heap.size, 5, none⟩)).set hn4 (.int .i64 v.k) (p := ⟨w.heap.size + 1, 0, none⟩)).set hn4 (.bool v.b) (p := ⟨w.heap.size + 1, 1, none⟩)).set hn4 (.int .i64 v.i) (p := ⟨w.heap.size + 1, 2, none⟩)).set hn4 (.string (bs v.s)) (p := ⟨w.heap.size + 1, 3, none⟩)).set hn4 (.slice B1 v.l.length e1) (p := ⟨w.heap.size + 1, 4, none⟩)).set hn4 (.slice B2 v.o.length e2) (p := ⟨w.heap.size + 1, 5, none⟩))
      refine OO.keep (fun g hg => ⟨?_, ?_, hg.2.2⟩) hsm HOO.out
      · have h1 : W2.heap.size ≤ g := hg.1
        omega
      · have h2 := hg.2.1
        simpa [World.setCell] using h2
    · exact (((((((k3.setCell (Nat.le_refl _) _).setCell hw _).setCell hw _).setCell hw _).setCell hw _).setCell hw _).setCell hw _)
end Go.Proofs.YthaikagelloeoaaDoor
