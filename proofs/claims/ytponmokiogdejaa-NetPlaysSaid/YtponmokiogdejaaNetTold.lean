import Derived.Test.YtponmokiogdejaaNetWith
namespace Go.Proofs.Ytponmokiogdejaa
open Go.RowKit
set_option linter.unusedSimpArgs false
set_option linter.unusedVariables false

/-- The letter that is laid where the answer goes. -/
def LaidLet (w : World) (n0 : Nat) (x : Let) (n : Nat) (w' : World) : Prop := n = 0 ∧ ∃ w4 A c, Own w4 w.heap.size A x.fr ∧ x.fr.length ≤ c ∧ Below w.heap.size w w4 ∧ w' = ((w4.setCell ⟨n0, 0, none⟩ (.int .u64 (x.to : Int))).setCell ⟨n0, 1, none⟩ (.slice A x.fr.length c)).setCell ⟨n0, 2, none⟩ (.bool x.sp)

set_option maxRecDepth 100000 in
set_option maxHeartbeats 4000000 in
theorem at1_any (M : Nat → Prop) (g0 n0 k : Nat) (L : List Let) (A : Option Addr) (c : Nat) (xs : List Value) (b : Nat) (w : World) (hA : A = some ⟨b, 0, none⟩) (hn : NetAt w M g0 L A c xs) (hk : k < L.length)
    (hbx : w.heap[n0]? = some (.cells #[.int .u64 0, .slice none 0 0, .bool false] 47 (0, 0))) :
    Calls Try.prog 44 #[.pointer (some ⟨b, k * 3, none⟩), .pointer (some ⟨n0, 0, none⟩)] w (Errs (LaidLet w n0 L[k])) := by
  obtain ⟨b', B, d, hA', hMb, hbg, hbs, ⟨a0, a1, a2⟩, -, hto, hfr, hd, hF⟩ := net_row hn hk
  rw [hA] at hA'
  injection hA' with hA'
  injection hA' with hA' _ _
  subst hA'
  clear hA
  have HC := Lib.hid fun W (hW : Below w.heap.size w W) => copied_any B d L[k] W ((hF.at (B := w.heap.size) fun g hg => hn.2.2.2.2.2.2.2 g hg.1).arg hW) hfr
  obtain ⟨x, hx⟩ : ∃ x, x = L[k] := ⟨_, rfl⟩
  rw [← hx] at a0 a1 a2 HC ⊢
  have hn0 : n0 < w.heap.size := (Array.getElem?_eq_some_iff.1 hbx).1
  clear hF hx hn hto hfr hd
  go_enter Try.func44, Try.ntmps44
  go_wp2_with fail
  ((with_reducible refine (HC.out _ (by go_grown)).mono ?_); rintro e w4 ⟨A4, c4, rfl, hx, hc4, b4⟩)
  have b5 : Below w.heap.size w w4 := by go_grown
  have hb9 : w4.heap[n0]? = some (.cells #[.int .u64 0, .slice none 0 0, .bool false] 47 (0, 0)) := (b5.block n0 hn0).trans hbx
  have p0 : w4.cell? ⟨n0, 0, none⟩ = some (.int .u64 0) := (by rw [cell_of_row _ _ 0 _ _ (0, 0) hb9]; rfl)
  have p1 : w4.cell? ⟨n0, 1, none⟩ = some (.slice none 0 0) := (by rw [cell_of_row _ _ 1 _ _ (0, 0) hb9]; rfl)
  have p2 : w4.cell? ⟨n0, 2, none⟩ = some (.bool false) := (by rw [cell_of_row _ _ 2 _ _ (0, 0) hb9]; rfl)
  have pf := (fun o => frozen_of_row w4 n0 o _ _ hb9)
  have pf0 := pf 0
  have pf1 := pf 1
  have pf2 := pf 2
  have HX := Lib.hid (And.intro hx (And.intro hc4 b5))
  clear hx hc4 b4 b5 pf hb9
  go_wp2
  go_ret
  refine ⟨0, rfl, rfl, _, _, _, HX.out.1, HX.out.2.1, HX.out.2.2, ?_⟩
  rfl

/-- A letter of its own, and an error. -/
def AnsLet (w : World) (x : Let) (n : Nat) (e : Ending) (w' : World) : Prop := ∃ A c, e = .returned (.tuple #[.agg #[.int .u64 (x.to : Int), .slice A x.fr.length c, .bool x.sp], .int .i64 (n : Int)]) ∧ Own w' w.heap.size A x.fr ∧ x.fr.length ≤ c ∧ Below w.heap.size w w'

set_option maxRecDepth 100000 in
set_option maxHeartbeats 4000000 in
theorem at_in (M : Nat → Prop) (g0 k : Nat) (L : List Let) (w : World) (h : NetO w M g0 L) (hk : k < L.length) (hL : L.length ≤ 1000000) :
    Calls Try.prog 20 #[.pointer (some ⟨g0, 0, none⟩), .int .i64 (k : Int)] w (AnsLet w L[k] 0) := by
  obtain ⟨A, c, xs, hn⟩ := h
  obtain ⟨w1, hw1⟩ : ∃ w1, (w.alloc (.cells #[.int .u64 0, .slice none 0 0, .bool false] 47)).alloc (.cells #[.int .u64 0, .slice none 0 0, .bool false] 47) = w1 := ⟨_, rfl⟩
  have b1 : Below w.heap.size w w1 := by rw [← hw1]; exact ((Below.refl _ w).alloc (Nat.le_refl _) _).alloc (by simp) _
  have z1 : w1.heap.size = w.heap.size + 2 := by rw [← hw1]; simp
  have o1 : w1.heap[w.heap.size]? = some (.cells #[.int .u64 0, .slice none 0 0, .bool false] 47 (0, 0)) := by rw [← hw1]; exact heap_alloc2_old w _ _
  have o2 : w1.heap[w.heap.size + 1]? = some (.cells #[.int .u64 0, .slice none 0 0, .bool false] 47 (0, 0)) := by rw [← hw1]; exact heap_alloc2_new w _ _
  have hn1 : NetAt w1 M g0 L A c xs := hn.below b1
  have HC := Lib.hid (withAt_in (.pointer (some ⟨w.heap.size + 1, 0, none⟩)) hn1 hk hL fun b hA => at1_any M g0 (w.heap.size + 1) k L A c xs b w1 hA hn1 hk o2)
  obtain ⟨x, hx⟩ : ∃ x, x = L[k] := ⟨_, rfl⟩
  rw [← hx] at HC ⊢
  have HW := Lib.hid hw1
  clear hw1 hn1 hn hx
  go_enter Try.func20, Try.ntmps20
  go_wp2_with fail
  rw [HW.out]
  ((with_reducible refine HC.out.mono ?_); rintro e w4 ⟨n, rfl, rfl, w3, A', c', hown, hc', b3, hw4⟩)
  have p1 : w3.heap[w.heap.size]? = some (.cells #[.int .u64 0, .slice none 0 0, .bool false] 47 (0, 0)) := (b3.block _ (by omega)).trans o1
  have p2 : w3.heap[w.heap.size + 1]? = some (.cells #[.int .u64 0, .slice none 0 0, .bool false] 47 (0, 0)) := (b3.block _ (by omega)).trans o2
  have q2 := heap_setCell_same _ _ 2 _ _ (.bool x.sp) (heap_setCell_same _ _ 1 _ _ (.slice A' x.fr.length c') (heap_setCell_same _ _ 0 _ _ (.int .u64 (x.to : Int)) p2))
  have q1 : w4.heap[w.heap.size]? = some (.cells #[.int .u64 0, .slice none 0 0, .bool false] 47 (0, 0)) := by
    rw [hw4]
    exact (Below.heap_setCell _ _ _ _ (by simp)).trans ((Below.heap_setCell _ _ _ _ (by simp)).trans ((Below.heap_setCell _ _ _ _ (by simp)).trans p1))
  rw [← hw4] at q2
  have r0 : w4.cell? ⟨w.heap.size + 1, 0, none⟩ = some (.int .u64 (x.to : Int)) := by rw [cell_of_row _ _ 0 _ _ (0, 0) q2]; rfl
  have r1 : w4.cell? ⟨w.heap.size + 1, 1, none⟩ = some (.slice A' x.fr.length c') := by rw [cell_of_row _ _ 1 _ _ (0, 0) q2]; rfl
  have r2 : w4.cell? ⟨w.heap.size + 1, 2, none⟩ = some (.bool x.sp) := by rw [cell_of_row _ _ 2 _ _ (0, 0) q2]; rfl
  have s0 : w4.cell? ⟨w.heap.size, 0, none⟩ = some (.int .u64 0) := by rw [cell_of_row _ _ 0 _ _ (0, 0) q1]; rfl
  have s1 : w4.cell? ⟨w.heap.size, 1, none⟩ = some (.slice none 0 0) := by rw [cell_of_row _ _ 1 _ _ (0, 0) q1]; rfl
  have s2 : w4.cell? ⟨w.heap.size, 2, none⟩ = some (.bool false) := by rw [cell_of_row _ _ 2 _ _ (0, 0) q1]; rfl
  have sf := fun o => frozen_of_row w4 w.heap.size o _ _ q1
  have sf0 := sf 0
  have sf1 := sf 1
  have sf2 := sf 2
  have e1 : w.heap.size ≤ w.heap.size + 1 := by omega
  have b4 : Below w.heap.size w w4 := by rw [hw4]; exact (((bthen b1 b3).setCell e1 _).setCell e1 _).setCell e1 _
  have hs4 : SameAt (Span w1.heap.size w3.heap.size none) w3 w4 := by
    have h2 : ∀ g', Span w1.heap.size w3.heap.size none g' → g' ≠ w.heap.size + 1 := fun g' hg' => by have := hg'.1; omega
    rw [hw4]
    exact (((SameAt.refl _ w3).set h2 (.int .u64 (x.to : Int)) (p := ⟨w.heap.size + 1, 0, none⟩)).set h2 (.slice A' x.fr.length c') (p := ⟨w.heap.size + 1, 1, none⟩)).set h2 (.bool x.sp) (p := ⟨w.heap.size + 1, 2, none⟩)
  have z4 : w4.heap.size = w3.heap.size := by rw [hw4]; simp [World.setCell]
  have HX := Lib.hid (And.intro hown (And.intro hc' (And.intro b4 hs4)))
  clear hown hc' b4 hs4 hw4 p1 p2 q1 q2 b3 sf HC
  go_wp2
  refine bodyPost_ret (v := .tuple #[.agg #[.int .u64 (x.to : Int), .slice A' x.fr.length c', .bool x.sp], .int .i64 0]) (by simp [results, Try.results20, go_sem, s0, s1, s2, sf0]) rfl ⟨A', c', rfl, ?_, HX.out.2.1, ((HX.out.2.2.1.setCell (Nat.le_refl _) _).setCell (Nat.le_refl _) _).setCell (Nat.le_refl _) _⟩
  have h1 : ∀ g', Span w1.heap.size w3.heap.size none g' → g' ≠ w.heap.size := fun g' hg' => by have := hg'.1; omega
  have hs := ((HX.out.2.2.2.set h1 (.int .u64 (x.to : Int)) (p := ⟨w.heap.size, 0, none⟩)).set h1 (.slice A' x.fr.length c') (p := ⟨w.heap.size, 1, none⟩)).set h1 (.bool x.sp) (p := ⟨w.heap.size, 2, none⟩)
  refine Own.base (HX.out.1.keep ?_ fun g o hg hl => hs ⟨g, o, none⟩ ⟨hg, hl, by simp⟩) b1.size
  simp [World.setCell]
  omega
end Go.Proofs.Ytponmokiogdejaa
