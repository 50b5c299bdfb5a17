/- A log's Put and At. -/
import Derived.Test.YtkdlfgfjahnhmaaLogMem
import Derived.Deep.RegionHeld3
import Derived.Deep.RegionHeldLaw
import Derived.StillTailTactics
import Derived.Laws.EntriesVeiled
namespace Go.Proofs.Ytkdlfgfjahnhmaa
open Go.RowKit
set_option linter.unusedSimpArgs false
set_option linter.unusedVariables false
/-- The ring with another root in one place. -/
def put1 (ring : Nat → Option Addr) (k : Nat) (p : Option Addr) : Nat → Option Addr := fun i => if i = k then p else ring i
def treeV (p : Option Addr) : Value := .agg #[.pointer p, .nilFunc]
/-- What a version may not be put for. -/
def putE (newest count v : Nat) : Nat := if 4611686018427387903 < v then 7 else if 0 < count ∧ v ≤ newest then 15 else if 0 < count ∧ newest + 1 < v then 14 else 0
theorem cell_alloc2 (w : World) (a b : Value) (t : TypeId) : (w.alloc (.cells #[a, b] t)).cell? ⟨w.heap.size, 0, none⟩ = some a ∧ (w.alloc (.cells #[a, b] t)).cell? ⟨w.heap.size, 1, none⟩ = some b := by
  have h := heap_alloc_new w (.cells #[a, b] t)
  exact ⟨by rw [cell_of_row _ _ 0 _ _ (0, 0) h]; rfl, by rw [cell_of_row _ _ 1 _ _ (0, 0) h]; rfl⟩
/-- What a log's Put leaves. -/
structure DidPut (w : World) (g r n : Nat) (ring : Nat → Option Addr) (newest count : Nat) (w' : World) : Prop where
  lg : LG w' g r n ring newest count
  rest : ∀ k, k < w.heap.size → k ≠ g → k ≠ r → w'.heap[k]? = w.heap[k]?
  size : w.heap.size ≤ w'.heap.size
  same : w'.os = w.os ∧ w'.tape = w.tape ∧ w'.output = w.output
section
variable {W : World} {g r n : Nat} {ring : Nat → Option Addr} {newest count : Nat}
theorem LG.drew (h : LG W g r n ring newest count) : LG W.drew g r n ring newest count := ⟨h.hg, h.hr, h.ne, h.lim⟩
theorem LG.setRing (h : LG W g r n ring newest count) {k : Nat} (hk : k < n) (p : Option Addr) :
    LG ((W.setCell ⟨r, k * 2, none⟩ (.pointer p)).setCell ⟨r, k * 2 + 1, none⟩ .nilFunc) g r n (put1 ring k p) newest count := by
  obtain ⟨cur, hc, hR⟩ := h.hr
  have s1 := heap_setCell_same W r (k * 2) cur _ (.pointer p) hc
  have s2 := heap_setCell_same _ r (k * 2 + 1) _ _ .nilFunc s1
  refine ⟨?_, ⟨_, s2, ?_⟩, h.ne, h.lim⟩
  · rw [heap_setCell_other _ _ g _ h.ne, heap_setCell_other _ _ g _ h.ne]; exact h.hg
  · have hz := hR.size
    refine ⟨by simpa using hz, fun i hi => ?_, fun i hi => ?_⟩
    · rw [Array.getElem?_setIfInBounds, if_neg (by omega), Array.getElem?_setIfInBounds]
      unfold put1
      by_cases e : i = k
      · subst e
        rw [if_pos rfl, if_pos (by omega), if_pos rfl]
      · rw [if_neg (by omega), if_neg e]; exact hR.root i hi
    · rw [Array.getElem?_setIfInBounds]
      by_cases e : i = k
      · subst e
        rw [if_pos rfl, if_pos (by simp; omega)]
      · rw [if_neg (by omega), Array.getElem?_setIfInBounds, if_neg (by omega)]; exact hR.apart i hi
theorem LG.setNewest (h : LG W g r n ring newest count) {v : Nat} (hv : v ≤ 4611686018427387903) : LG (W.setCell ⟨g, 1, none⟩ (.int .u64 (v : Int))) g r n ring v count := by
  obtain ⟨cur, hc, hR⟩ := h.hr
  have s1 := heap_setCell_same W g 1 _ _ (.int .u64 (v : Int)) h.hg
  obtain ⟨l1, l2, l3, l4⟩ := h.lim
  exact ⟨by simpa using s1, ⟨cur, by rw [heap_setCell_other _ _ r _ h.ne.symm]; exact hc, hR⟩, h.ne, l1, l2, l3, hv⟩
theorem LG.setCount (h : LG W g r n ring newest count) {c : Nat} (hv : c ≤ n) : LG (W.setCell ⟨g, 2, none⟩ (.int .i64 (c : Int))) g r n ring newest c := by
  obtain ⟨cur, hc, hR⟩ := h.hr
  have s1 := heap_setCell_same W g 2 _ _ (.int .i64 (c : Int)) h.hg
  obtain ⟨l1, l2, l3, l4⟩ := h.lim
  exact ⟨by simpa using s1, ⟨cur, by rw [heap_setCell_other _ _ r _ h.ne.symm]; exact hc, hR⟩, h.ne, l1, l2, hv, l4⟩
end
/-- Only the log's two blocks are turned. -/
def Only2 (g r : Nat) (w w' : World) : Prop := (∀ k, k < w.heap.size → k ≠ g → k ≠ r → w'.heap[k]? = w.heap[k]?) ∧ w.heap.size ≤ w'.heap.size ∧ (w'.os = w.os ∧ w'.tape = w.tape ∧ w'.output = w.output)
theorem Only2.of {g r : Nat} {w w' : World} (h : Below w.heap.size w w') : Only2 g r w w' := ⟨fun k hk _ _ => h.block k hk, h.size, h.os, h.tape, h.output⟩
theorem Only2.set {g r : Nat} {w w' : World} (h : Only2 g r w w') {b : Nat} (hb : b = g ∨ b = r) (i : Nat) (v : Value) : Only2 g r w (w'.setCell ⟨b, i, none⟩ v) :=
  ⟨fun k hk hg hr => by rw [heap_setCell_other _ _ k _ (by show k ≠ b; rcases hb with rfl | rfl <;> assumption)]; exact h.1 k hk hg hr, by simpa [World.setCell] using h.2.1, h.2.2⟩
theorem Only2.drew {g r : Nat} {w w' : World} (h : Only2 g r w w') : Only2 g r w w'.drew := h
theorem Only2.below {g r B : Nat} {w w' : World} (h : Only2 g r w w') (hB : B ≤ w.heap.size) (hg : B ≤ g) (hr : B ≤ r) : Below B w w' :=
  ⟨h.2.2.1, h.2.2.2.1, h.2.2.2.2, h.2.1, fun k hk => h.1 k (by omega) (by omega) (by omega)⟩
set_option maxRecDepth 100000 in
set_option maxHeartbeats 4000000 in
theorem put_go (w : World) {g r n : Nat} {ring : Nat → Option Addr} {newest count : Nat} (h : LG w g r n ring newest count) (v : Nat) (p : Option Addr) (hv : v ≤ 4611686018427387903) (hok : count = 0 ∨ v = newest + 1) :
    Calls Try.prog 13 #[.pointer (some ⟨g, 0, none⟩), .int .u64 (v : Int), treeV p] w fun e w' => e = .returned (.int .i64 0) ∧ LG w' g r n (put1 ring (v % n) p) v (min (count + 1) n) ∧ Only2 g r w w' := by
  unfold treeV
  have HZ := Lib.hid fun V (hV : Below w.heap.size w V) => zero_any V (h.then hV)
  have HP := Lib.hid fun V (hV : Below w.heap.size w V) => place_any V (h.then hV) v (by omega)
  have hv' : decide ((4611686018427387903 : Int) < (v : Int)) = false := by simp; omega
  have hlt := h.lt
  have hl := h.lim
  have hne := h.ne
  have hne' := hne.symm
  have hwr : w.heap.size ≠ r := by omega
  have hwr' : r ≠ w.heap.size := by omega
  obtain ⟨m, hm⟩ : ∃ m, v % n = m := ⟨_, rfl⟩
  have hmn : m < n := by rw [← hm]; exact Nat.mod_lt _ hl.1
  simp only [hm] at HP ⊢
  obtain ⟨nc, hnc⟩ : ∃ nc, min (count + 1) n = nc := ⟨_, rfl⟩
  have hncn : nc ≤ n := by omega
  have hmin : min ((count : Int) + 1) (n : Int) = (nc : Int) := by omega
  rw [hnc]
  have HV := Lib.hid hv
  have HC := Lib.hid hncn
  obtain ⟨b, hb⟩ : ∃ b, decide (0 < count) = b := ⟨_, rfl⟩
  have e2 : b = true → decide (v ≤ newest) = false ∧ decide ((newest : Int) + 1 < (v : Int)) = false := by
    rintro rfl
    rw [decide_eq_true_eq] at hb
    constructor <;> rw [decide_eq_false_iff_not] <;> omega
  have HNC : Hid (nc = min (count + 1) n) := hnc.symm
  have w3 : IntKind.u64.wrap ((newest : Int) + 1) = (newest : Int) + 1 := by rw [IntWalk.u64_in] <;> omega
  have w4 : IntKind.i64.wrap ((count : Int) + 1) = (count : Int) + 1 := by rw [IntKind.wrap_i64] <;> omega
  have b0 := (cell_alloc2 w (.pointer p) .nilFunc 40).1
  have b1 := (cell_alloc2 w (.pointer p) .nilFunc 40).2
  obtain ⟨W, hW⟩ : ∃ W, w.alloc (.cells #[.pointer p, .nilFunc] 40) = W := ⟨_, rfl⟩
  rw [hW] at b0 b1
  have hB : Below w.heap.size w W := by rw [← hW]; exact (Below.refl _ w).alloc (Nat.le_refl _) _
  have hL := h.then hB
  have HS := Lib.hid (hL.setRing hmn p).drew
  have HO := Lib.hid ((((Only2.of (g := g) (r := r) hB).set (.inr rfl) (m * 2) (.pointer p)).set (.inr rfl) (m * 2 + 1) .nilFunc).drew)
  have c0 := hL.c0
  have c1 := hL.c1
  have c2 := hL.c2
  have r0 := hL.at0 hmn
  have r1 := hL.at1 hmn
  have fr0 := hL.fr (m * 2)
  have fr1 := hL.fr (m * 2 + 1)
  have r1' : (W.setCell ⟨r, m * 2, none⟩ (.pointer p)).cell? ⟨r, m * 2 + 1, none⟩ = some .nilFunc := by rw [World.cell?_setCell_other _ _ _ _ (fun h => by injection h with _ h; omega)]; exact r1
  have HB := Lib.hid hB
  have hmI : (m : Int) < (n : Int) := by omega
  clear h hB hL hm hv hnc hncn hok hl
  cases b
  · clear e2
    go_enter Try.func13, Try.ntmps13
    go_wp2_with fail
    ((with_reducible refine (HZ.out _ HB.out).mono ?_); rintro e w1 ⟨rfl, rfl⟩)
    go_wp2
    go_region_held3 (fun w' => w'.cell? ⟨g, 0, none⟩ = some (.slice (some ⟨r, 0, none⟩) n n) ∧ w'.cell? ⟨w.heap.size, 0, none⟩ = some (.pointer p) ∧ w'.cell? ⟨w.heap.size, 1, none⟩ = some .nilFunc) (go_keep) (first | (go_at_call 27; (with_reducible refine (HP.out _ (HB.out.drew)).mono ?_); rintro e w4 ⟨rfl, rfl⟩))
    obtain ⟨W1, hW1⟩ : ∃ W1, ((W.setCell ⟨r, m * 2, none⟩ (.pointer p)).setCell ⟨r, m * 2 + 1, none⟩ .nilFunc).drew = W1 := ⟨_, rfl⟩
    rw [hW1] at HS HO ⊢
    have d1 := HS.out.c1
    have f1 := HS.out.f 1
    have L2 := HS.out.setNewest HV.out
    have O2 := HO.out.set (.inl rfl) 1 (.int .u64 (v : Int))
    obtain ⟨W2, hW2⟩ : ∃ W2, W1.setCell ⟨g, 1, none⟩ (.int .u64 (v : Int)) = W2 := ⟨_, rfl⟩
    rw [hW2] at L2 O2
    have k0 := L2.c0
    have k2 := L2.c2
    have f2 := L2.f 2
    have HF : Hid (∀ x : Int, x = (nc : Int) → LG (W2.setCell ⟨g, 2, none⟩ (.int .i64 x)).drew g r n (put1 ring m p) v nc ∧ Only2 g r w (W2.setCell ⟨g, 2, none⟩ (.int .i64 x)).drew) := fun x hx => by
      subst hx
      exact ⟨(L2.setCount HC.out).drew, (O2.set (.inl rfl) 2 _).drew⟩
    clear c0 c1 c2 r0 r1 r1' fr0 fr1 b0 b1 hW1 L2 O2
    go_wp2
    go_region
    all_goals go_wp2
    all_goals
      go_ret
      first
        | exact ⟨rfl, HF.out (n : Int) (by have := HNC.out; omega)⟩
        | exact ⟨rfl, HF.out ((count : Int) + 1) (by have := HNC.out; omega)⟩
  · obtain ⟨e3, e4⟩ := e2 rfl
    clear e2
    go_enter Try.func13, Try.ntmps13
    go_wp2_with fail
    ((with_reducible refine (HZ.out _ HB.out).mono ?_); rintro e w1 ⟨rfl, rfl⟩)
    go_wp2
    go_region_held3 (fun w' => w'.cell? ⟨g, 0, none⟩ = some (.slice (some ⟨r, 0, none⟩) n n) ∧ w'.cell? ⟨w.heap.size, 0, none⟩ = some (.pointer p) ∧ w'.cell? ⟨w.heap.size, 1, none⟩ = some .nilFunc) (go_keep) (first | (go_at_call 27; (with_reducible refine (HP.out _ (HB.out.drew)).mono ?_); rintro e w4 ⟨rfl, rfl⟩))
    obtain ⟨W1, hW1⟩ : ∃ W1, ((W.setCell ⟨r, m * 2, none⟩ (.pointer p)).setCell ⟨r, m * 2 + 1, none⟩ .nilFunc).drew = W1 := ⟨_, rfl⟩
    rw [hW1] at HS HO ⊢
    have d1 := HS.out.c1
    have f1 := HS.out.f 1
    have L2 := HS.out.setNewest HV.out
    have O2 := HO.out.set (.inl rfl) 1 (.int .u64 (v : Int))
    obtain ⟨W2, hW2⟩ : ∃ W2, W1.setCell ⟨g, 1, none⟩ (.int .u64 (v : Int)) = W2 := ⟨_, rfl⟩
    rw [hW2] at L2 O2
    have k0 := L2.c0
    have k2 := L2.c2
    have f2 := L2.f 2
    have HF : Hid (∀ x : Int, x = (nc : Int) → LG (W2.setCell ⟨g, 2, none⟩ (.int .i64 x)).drew g r n (put1 ring m p) v nc ∧ Only2 g r w (W2.setCell ⟨g, 2, none⟩ (.int .i64 x)).drew) := fun x hx => by
      subst hx
      exact ⟨(L2.setCount HC.out).drew, (O2.set (.inl rfl) 2 _).drew⟩
    clear c0 c1 c2 r0 r1 r1' fr0 fr1 b0 b1 hW1 L2 O2
    go_wp2
    go_region
    all_goals go_wp2
    all_goals
      go_ret
      first
        | exact ⟨rfl, HF.out (n : Int) (by have := HNC.out; omega)⟩
        | exact ⟨rfl, HF.out ((count : Int) + 1) (by have := HNC.out; omega)⟩
set_option maxRecDepth 100000 in
set_option maxHeartbeats 4000000 in
theorem put_big (w : World) {g r n : Nat} {ring : Nat → Option Addr} {newest count : Nat} (h : LG w g r n ring newest count) (v : Nat) (p : Option Addr) (hv : 4611686018427387903 < v) :
    Calls Try.prog 13 #[.pointer (some ⟨g, 0, none⟩), .int .u64 (v : Int), treeV p] w fun e w' => e = .returned (.int .i64 7) ∧ Below w.heap.size w w' := by
  unfold treeV
  have HZ := Lib.hid fun V (hV : Below w.heap.size w V) => zero_any V (h.then hV)
  have hv' : decide ((4611686018427387903 : Int) < (v : Int)) = true := by simp; omega
  clear h hv
  go_enter Try.func13, Try.ntmps13
  go_wp2_with fail
  ((with_reducible refine (HZ.out _ ((Below.refl _ w).alloc (Nat.le_refl _) _)).mono ?_); rintro e w1 ⟨rfl, rfl⟩)
  go_wp2
  go_ret
  exact ⟨rfl, (Below.refl _ w).alloc (Nat.le_refl _) _⟩
set_option maxRecDepth 100000 in
set_option maxHeartbeats 4000000 in
theorem put_old (w : World) {g r n : Nat} {ring : Nat → Option Addr} {newest count : Nat} (h : LG w g r n ring newest count) (v : Nat) (p : Option Addr) (hv : v ≤ newest) (hc : 0 < count) :
    Calls Try.prog 13 #[.pointer (some ⟨g, 0, none⟩), .int .u64 (v : Int), treeV p] w fun e w' => e = .returned (.int .i64 15) ∧ Below w.heap.size w w' := by
  unfold treeV
  have HZ := Lib.hid fun V (hV : Below w.heap.size w V) => zero_any V (h.then hV)
  have hl := h.lim
  have hv' : decide ((4611686018427387903 : Int) < (v : Int)) = false := by simp; omega
  have e1 : decide (0 < count) = true := by simpa using hc
  have e2 : decide (v ≤ newest) = true := by simpa using hv
  have hB : Below w.heap.size w (w.alloc (.cells #[.pointer p, .nilFunc] 40)) := (Below.refl _ w).alloc (Nat.le_refl _) _
  have hL := h.then hB
  have c1 := hL.c1
  have c2 := hL.c2
  have HB := Lib.hid hB
  clear h hL hv hl hc hB
  go_enter Try.func13, Try.ntmps13
  go_wp2_with fail
  ((with_reducible refine (HZ.out _ HB.out).mono ?_); rintro e w1 ⟨rfl, rfl⟩)
  go_wp2
  go_ret
  exact ⟨rfl, HB.out⟩
set_option maxRecDepth 100000 in
set_option maxHeartbeats 4000000 in
theorem put_gap (w : World) {g r n : Nat} {ring : Nat → Option Addr} {newest count : Nat} (h : LG w g r n ring newest count) (v : Nat) (p : Option Addr) (hv : newest + 1 < v) (hm : v ≤ 4611686018427387903) (hc : 0 < count) :
    Calls Try.prog 13 #[.pointer (some ⟨g, 0, none⟩), .int .u64 (v : Int), treeV p] w fun e w' => e = .returned (.int .i64 14) ∧ Below w.heap.size w w' := by
  unfold treeV
  have HZ := Lib.hid fun V (hV : Below w.heap.size w V) => zero_any V (h.then hV)
  have hl := h.lim
  have hv' : decide ((4611686018427387903 : Int) < (v : Int)) = false := by simp; omega
  have e1 : decide (0 < count) = true := by simpa using hc
  have e2 : decide (v ≤ newest) = false := by simp; omega
  have e3 : decide ((newest : Int) + 1 < (v : Int)) = true := by rw [decide_eq_true_eq]; omega
  have w3 : IntKind.u64.wrap ((newest : Int) + 1) = (newest : Int) + 1 := by rw [IntWalk.u64_in] <;> omega
  have hB : Below w.heap.size w (w.alloc (.cells #[.pointer p, .nilFunc] 40)) := (Below.refl _ w).alloc (Nat.le_refl _) _
  have hL := h.then hB
  have c1 := hL.c1
  have c2 := hL.c2
  have HB := Lib.hid hB
  clear h hL hv hl hc hB hm
  go_enter Try.func13, Try.ntmps13
  go_wp2_with fail
  ((with_reducible refine (HZ.out _ HB.out).mono ?_); rintro e w1 ⟨rfl, rfl⟩)
  go_wp2
  go_ret
  exact ⟨rfl, HB.out⟩
end Go.Proofs.Ytkdlfgfjahnhmaa
