/- The chapter's row. -/
import Derived.Test.YtkdlfgfjahnhmaaLogAll
namespace Go.Proofs.Ytkdlfgfjahnhmaa
open Go.RowKit
set_option linter.unusedSimpArgs false
set_option linter.unusedVariables false
/-- A log, and a tree's box. -/
structure KS (w : World) (g r q n : Nat) (p : Option Addr) (ring : Nat → Option Addr) (newest count : Nat) (W : World) : Prop where
  lg : LG W g r n ring newest count
  box : W.heap[q]? = some (.cells #[.pointer p, .nilFunc] 40 (0, 0))
  bel : Below w.heap.size w W
  low : w.heap.size ≤ g ∧ w.heap.size ≤ r ∧ q ≠ g ∧ q ≠ r
section
variable {w W W' : World} {g r q n : Nat} {p : Option Addr} {ring ring' : Nat → Option Addr} {newest count newest' count' : Nat}
theorem KS.then (h : KS w g r q n p ring newest count W) (hb : Below W.heap.size W W') : KS w g r q n p ring newest count W' :=
  ⟨h.lg.then hb, (hb.block q (Array.getElem?_eq_some_iff.1 h.box).1).trans h.box, h.bel.trans (hb.mono h.bel.size), h.low⟩
theorem KS.put (h : KS w g r q n p ring newest count W) (h1 : LG W' g r n ring' newest' count') (h2 : Only2 g r W W') : KS w g r q n p ring' newest' count' W' :=
  ⟨h1, (h2.1 q (Array.getElem?_eq_some_iff.1 h.box).1 h.low.2.2.1 h.low.2.2.2).trans h.box, h.bel.trans (h2.below h.bel.size h.low.1 h.low.2.1), h.low⟩
theorem KS.cells (h : KS w g r q n p ring newest count W) : W.cell? ⟨q, 0, none⟩ = some (.pointer p) ∧ W.cell? ⟨q, 1, none⟩ = some .nilFunc := row2 h.box
/-- What a Put answers, beside a box. -/
def DidKS (w : World) (g r q n : Nat) (p : Option Addr) (ring : Nat → Option Addr) (newest count x : Nat) (e : Ending) (W' : World) : Prop := e = .returned (.int .i64 (x : Int)) ∧ KS w g r q n p ring newest count W'
theorem KS.ok (h : KS w g r q n p ring newest count W) (v : Nat) (p' : Option Addr) (hv : v ≤ 4611686018427387903) (hok : count = 0 ∨ v = newest + 1) :
    Calls Try.prog 13 #[.pointer (some ⟨g, 0, none⟩), .int .u64 (v : Int), .agg #[.pointer p', .nilFunc]] W (DidKS w g r q n p (put1 ring (v % n) p') v (min (count + 1) n) 0) :=
  (put_go W h.lg v p' hv hok).mono fun e W' ⟨he, h1, h2⟩ => ⟨he, h.put h1 h2⟩
theorem KS.old (h : KS w g r q n p ring newest count W) (v : Nat) (p' : Option Addr) (hv : v ≤ newest) (hc : 0 < count) :
    Calls Try.prog 13 #[.pointer (some ⟨g, 0, none⟩), .int .u64 (v : Int), .agg #[.pointer p', .nilFunc]] W (DidKS w g r q n p ring newest count 15) :=
  (put_old W h.lg v p' hv hc).mono fun e W' ⟨he, hb⟩ => ⟨he, h.then hb⟩
theorem KS.gap (h : KS w g r q n p ring newest count W) (v : Nat) (p' : Option Addr) (hv : newest + 1 < v) (hm : v ≤ 4611686018427387903) (hc : 0 < count) :
    Calls Try.prog 13 #[.pointer (some ⟨g, 0, none⟩), .int .u64 (v : Int), .agg #[.pointer p', .nilFunc]] W (DidKS w g r q n p ring newest count 14) :=
  (put_gap W h.lg v p' hv hm hc).mono fun e W' ⟨he, hb⟩ => ⟨he, h.then hb⟩
theorem KS.big (h : KS w g r q n p ring newest count W) (v : Nat) (p' : Option Addr) (hv : 4611686018427387903 < v) :
    Calls Try.prog 13 #[.pointer (some ⟨g, 0, none⟩), .int .u64 (v : Int), .agg #[.pointer p', .nilFunc]] W (DidKS w g r q n p ring newest count 7) :=
  (put_big W h.lg v p' hv).mono fun e W' ⟨he, hb⟩ => ⟨he, h.then hb⟩
end
theorem tree_at {W : World} {b p1 p2 p3 p4 : Nat} (h : W.heap[b]? = some (.cells (TreesV p1 p2 p3 p4).toArray 40 (0, 0))) (i : Nat) (u : Value) (hu : (TreesV p1 p2 p3 p4)[i]? = some u) : W.cell? ⟨b, i, none⟩ = some u := by
  rw [cell_of_row _ _ i _ _ (0, 0) h]
  simpa using hu
set_option maxRecDepth 100000 in
set_option maxHeartbeats 8000000 in
theorem known_any (w : World) : Calls Try.prog 10 #[] w fun e w' => e = .returned (.bool true) ∧ Below w.heap.size w w' := by
  have HN := Lib.hid (new_any 2 w (by omega) (by omega))
  have HT := Lib.hid trees_any
  go_enter Try.func10, Try.ntmps10
  go_wp2_with fail
  ((refine HN.out.mono ?_); rintro e w1 ⟨g, r, rfl, hL, hlow, b1⟩)
  go_wp2_with fail
  ((refine (HT.out _).mono ?_); rintro e w2 ⟨b, p1, p2, p3, p4, rfl, hrow, hb, hne, b2⟩)
  have c2 := tree_at hrow 2 _ rfl
  have c3 := tree_at hrow 3 _ rfl
  have S2 := hL.then b2
  have k2 := b1.trans (b2.mono b1.size)
  have hlt := hL.lt
  have z2 := b2.size
  have q0 := heap_alloc_new w2 (.cells #[.pointer (some ⟨p1, 0, none⟩), .nilFunc] 40)
  obtain ⟨W, hW⟩ : ∃ W, w2.alloc (.cells #[.pointer (some ⟨p1, 0, none⟩), .nilFunc] 40) = W := ⟨_, rfl⟩
  rw [hW] at q0
  have bW : Below w2.heap.size w2 W := by rw [← hW]; exact (Below.refl _ w2).alloc (Nat.le_refl _) _
  have K0 : KS w g r w2.heap.size 2 (some ⟨p1, 0, none⟩) (fun _ => none) 0 0 W := ⟨S2.then bW, q0, k2.trans (bW.mono k2.size), hlow.1, hlow.2, by omega, by omega⟩
  have HK0 := Lib.hid K0
  have HW := Lib.hid hW
  clear K0 hW bW q0 S2 hL b1 b2 k2 hrow hne hb hlt z2
  go_wp2_with fail
  rw [HW.out]
  ((refine (HK0.out.ok 5 _ (by omega) (.inl rfl)).mono ?_); rintro e w3 ⟨rfl, K1⟩)
  have HK1 := Lib.hid K1
  obtain ⟨c2, c3⟩ := K1.cells
  clear K1
  go_wp2_with fail
  ((refine (HK1.out.ok 6 _ (by omega) (.inr rfl)).mono ?_); rintro e w4 ⟨rfl, K2⟩)
  have HK2 := Lib.hid K2
  obtain ⟨c2, c3⟩ := K2.cells
  clear K2
  go_wp2_with fail
  ((refine (HK2.out.ok 7 _ (by omega) (.inr rfl)).mono ?_); rintro e w5 ⟨rfl, K3⟩)
  have HK3 := Lib.hid K3
  clear K3
  go_wp2_with fail
  ((refine (oldest_any w5 HK3.out.lg (by decide) (by decide)).mono ?_); rintro e w6 ⟨rfl, d6⟩)
  have HK4 := Lib.hid (HK3.out.then (d6.below _))
  clear d6
  go_wp2_with fail
  ((refine (newest_any w6 HK4.out.lg (by decide)).mono ?_); rintro e w7 ⟨rfl, d7⟩)
  have HK5 := Lib.hid (HK4.out.then (d7.below _))
  clear d7
  go_wp2_with fail
  ((refine (at_out w7 HK5.out.lg 5 (by decide) (by decide) (by decide)).mono ?_); rintro e w8 ⟨rfl, b8⟩)
  have K6 := HK5.out.then b8
  have HK6 := Lib.hid K6
  obtain ⟨c2, c3⟩ := K6.cells
  clear K6 b8
  unfold treeV
  have lt : w2.heap.size < w8.heap.size := (Array.getElem?_eq_some_iff.1 HK6.out.box).1
  have ne : w2.heap.size ≠ w8.heap.size := by omega
  have HK7 := Lib.hid (HK6.out.then ((Below.refl _ w8).alloc (Nat.le_refl _) (.cells #[.pointer none, .nilFunc] 40)))
  go_wp2_with fail
  ((refine (HK7.out.old 7 _ (by decide) (by decide)).mono ?_); rintro e w9 ⟨rfl, K8⟩)
  have HK8 := Lib.hid K8
  obtain ⟨c2, c3⟩ := K8.cells
  clear K8 lt ne
  go_wp2_with fail
  ((refine (HK8.out.gap 9 _ (by decide) (by decide) (by decide)).mono ?_); rintro e w10 ⟨rfl, K9⟩)
  have HB := Lib.hid K9.bel
  clear K9
  go_wp2
  go_ret
  exact ⟨rfl, HB.out⟩
end Go.Proofs.Ytkdlfgfjahnhmaa
