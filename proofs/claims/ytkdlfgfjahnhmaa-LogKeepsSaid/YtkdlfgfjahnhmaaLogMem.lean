/- A log behind a pointer: a ring of roots, the newest version, how many are kept. -/
import Derived.Test.YtkdlfgfjahnhmaaWords
import Derived.IntWalk
import Derived.BigRegion
import Derived.Handy
namespace Go.Proofs.Ytkdlfgfjahnhmaa
open Go.RowKit
set_option linter.unusedSimpArgs false
set_option linter.unusedVariables false

theorem info_parts' {i : Option TypeInfo} {z : Option Value} {s b : Nat} (h : i.map (fun i => (i.zero, i.size, i.bytes)) = some (z, s, b)) : ∃ i0, i = some i0 ∧ i0.zero = z ∧ i0.size = s ∧ i0.bytes = b := by
  cases i with
  | none => cases h
  | some i0 => simp at h; exact ⟨i0, rfl, h.1, h.2.1, h.2.2⟩
theorem info_tree : (Try.prog.info? 40).map (fun i => (i.zero, i.size, i.bytes)) = some (some (.agg #[.pointer none, .nilFunc]), 2, 16) := by kernel_rfl

/-- A row of trees, root by root. -/
structure Ring (cur : Array Value) (n : Nat) (ring : Nat → Option Addr) : Prop where
  size : cur.size = n * 2
  root : ∀ i, i < n → cur[i * 2]? = some (.pointer (ring i))
  apart : ∀ i, i < n → cur[i * 2 + 1]? = some .nilFunc
/-- A log at g, its ring at r. -/
structure LG (W : World) (g r n : Nat) (ring : Nat → Option Addr) (newest count : Nat) : Prop where
  hg : W.heap[g]? = some (.cells #[.slice (some ⟨r, 0, none⟩) n n, .int .u64 (newest : Int), .int .i64 (count : Int)] 63 (0, 0))
  hr : ∃ cur, W.heap[r]? = some (.cells cur 40 (0, 0)) ∧ Ring cur n ring
  ne : g ≠ r
  lim : 0 < n ∧ n ≤ 1024 ∧ count ≤ n ∧ newest ≤ 4611686018427387903
section
variable {W W' : World} {g r n : Nat} {ring : Nat → Option Addr} {newest count : Nat}
theorem LG.c0 (h : LG W g r n ring newest count) : W.cell? ⟨g, 0, none⟩ = some (.slice (some ⟨r, 0, none⟩) n n) := by rw [cell_of_row _ _ 0 _ _ (0, 0) h.hg]; rfl
theorem LG.c1 (h : LG W g r n ring newest count) : W.cell? ⟨g, 1, none⟩ = some (.int .u64 (newest : Int)) := by rw [cell_of_row _ _ 1 _ _ (0, 0) h.hg]; rfl
theorem LG.c2 (h : LG W g r n ring newest count) : W.cell? ⟨g, 2, none⟩ = some (.int .i64 (count : Int)) := by rw [cell_of_row _ _ 2 _ _ (0, 0) h.hg]; rfl
theorem LG.f (h : LG W g r n ring newest count) (i : Nat) : W.frozen? ⟨g, i, none⟩ = false := frozen_of_row _ _ i _ _ h.hg
theorem LG.fr (h : LG W g r n ring newest count) (i : Nat) : W.frozen? ⟨r, i, none⟩ = false := by
  obtain ⟨cur, hc, _⟩ := h.hr
  exact frozen_of_row _ _ i _ _ hc
theorem LG.at0 (h : LG W g r n ring newest count) {i : Nat} (hi : i < n) : W.cell? ⟨r, i * 2, none⟩ = some (.pointer (ring i)) := by
  obtain ⟨cur, hc, hR⟩ := h.hr
  rw [cell_of_row _ _ (i * 2) _ _ (0, 0) hc]
  exact hR.root i hi
theorem LG.at1 (h : LG W g r n ring newest count) {i : Nat} (hi : i < n) : W.cell? ⟨r, i * 2 + 1, none⟩ = some .nilFunc := by
  obtain ⟨cur, hc, hR⟩ := h.hr
  rw [cell_of_row _ _ (i * 2 + 1) _ _ (0, 0) hc]
  exact hR.apart i hi
theorem LG.lt (h : LG W g r n ring newest count) : g < W.heap.size ∧ r < W.heap.size := by
  obtain ⟨cur, hc, _⟩ := h.hr
  exact ⟨(Array.getElem?_eq_some_iff.1 h.hg).1, (Array.getElem?_eq_some_iff.1 hc).1⟩
theorem LG.below {B : Nat} (h : LG W g r n ring newest count) (hb : Below B W W') (hg : g < B) (hr : r < B) : LG W' g r n ring newest count := by
  obtain ⟨cur, hc, hR⟩ := h.hr
  exact ⟨(hb.block g hg).trans h.hg, ⟨cur, (hb.block r hr).trans hc, hR⟩, h.ne, h.lim⟩
theorem LG.then (h : LG W g r n ring newest count) (hb : Below W.heap.size W W') : LG W' g r n ring newest count := h.below hb h.lt.1 h.lt.2
end
set_option maxHeartbeats 1000000 in
theorem zero_any (w : World) {g r n : Nat} {ring : Nat → Option Addr} {newest count : Nat} (h : LG w g r n ring newest count) :
    Calls Try.prog 26 #[.pointer (some ⟨g, 0, none⟩)] w fun e w' => e = .returned (.bool false) ∧ w = w' := by
  have c0 := h.c0
  have hn : ((n : Int) == 0) = false := by have := h.lim; rw [beq_eq_false_iff_ne]; omega
  clear h
  go_enter Try.func26, Try.ntmps26
  go_wp2
  go_ret
  exact ⟨rfl, rfl⟩
set_option maxHeartbeats 1000000 in
theorem place_any (w : World) {g r n : Nat} {ring : Nat → Option Addr} {newest count : Nat} (h : LG w g r n ring newest count) (v : Nat) (hv : v < 18446744073709551616) :
    Calls Try.prog 27 #[.pointer (some ⟨g, 0, none⟩), .int .u64 (v : Int)] w fun e w' => e = .returned (.int .i64 ((v % n : Nat) : Int)) ∧ w = w' := by
  have c0 := h.c0
  have hl := h.lim
  have hm : v % n < n := Nat.mod_lt _ hl.1
  obtain ⟨hl1, hl2, _⟩ := hl
  obtain ⟨m, hmv⟩ : ∃ m, v % n = m := ⟨_, rfl⟩
  rw [hmv] at hm ⊢
  have e1 : (v : Int) % (n : Int) = (m : Int) := by omega
  have hmI : (m : Int) ≤ 1024 := by omega
  have hn0 : ((n : Int) == 0) = false := by rw [beq_eq_false_iff_ne]; omega
  have HV := Lib.hid hv
  clear h hv hm hmv
  go_enter Try.func27, Try.ntmps27
  go_wp2
  go_ret
  exact ⟨rfl, rfl⟩
theorem zal (w : World) (o : Obj) : (w.alloc o).heap.size = w.heap.size + 1 := by simp
theorem ring_zero (n : Nat) : Ring (madeCells #[.pointer none, .nilFunc] (n * 2)) n (fun _ => none) := by
  refine ⟨size_madeCells _ _, fun i hi => ?_, fun i hi => ?_⟩
  · have h : i * 2 < n * 2 := by omega
    simp [madeCells, h]
  · have h : i * 2 + 1 < n * 2 := by omega
    have e : (i * 2 + 1) % 2 = 1 := by omega
    simp [madeCells, h, e]
/-- A call answers a new log. -/
def NewLog (w : World) (k : Nat) (e : Ending) (w' : World) : Prop := ∃ g r, e = .returned (.tuple #[.pointer (some ⟨g, 0, none⟩), .int .i64 0]) ∧ LG w' g r k (fun _ => none) 0 0 ∧ (w.heap.size ≤ g ∧ w.heap.size ≤ r) ∧ Below w.heap.size w w'
set_option maxHeartbeats 1000000 in
theorem new_any (k : Nat) (w : World) (h1 : 1 ≤ k) (h2 : k ≤ 1024) :
    Calls Try.prog 9 #[.int .i64 (k : Int)] w (NewLog w k) := by
  obtain ⟨i0, hi, hz0, hz1, hz2⟩ := info_parts' info_tree
  have hmk : ∀ W : World, (Instr.makeSlice 28 (.int .i64 (k : Int)) (.int .i64 (k : Int))).run Try.prog W = .ok (.slice (some ⟨W.heap.size, 0, none⟩) k k) (W.alloc (.cells (madeCells #[.pointer none, .nilFunc] (k * 2)) 40)) := fun W => by
    have := run_make (P := Try.prog) W 28 40 i0 _ Try.underlying28 hi hz0 .i64 .i64 (k : Int) (k : Int) (by omega) (by omega) (by rw [hz2]; omega) (by omega)
    rw [hz1, show (Value.agg #[Value.pointer none, .nilFunc]).cells = #[Value.pointer none, .nilFunc] from rfl] at this
    simpa using this
  have hR := Lib.hid (ring_zero k)
  have hk1 : ¬ (k : Int) < 1 := by omega
  have hk2 : ¬ (1024 : Int) < (k : Int) := by omega
  have HK : Hid (1 ≤ k ∧ k ≤ 1024) := ⟨h1, h2⟩
  obtain ⟨cur, hcur⟩ : ∃ cur, cur = madeCells #[Value.pointer none, .nilFunc] (k * 2) := ⟨_, rfl⟩
  rw [← hcur] at hR
  simp only [← hcur] at hmk
  clear hi hz0 hz1 hz2 h1 h2 hcur
  go_enter Try.func9, Try.ntmps9
  go_wp2
  go_ret2
  refine ⟨_, w.heap.size, rfl, ?_, ⟨by omega, Nat.le_refl _⟩, ((Below.refl _ _).alloc (Nat.le_refl _) _).alloc (by rw [zal]; omega) _⟩
  have g0 := heap_alloc2_new w (.cells cur 40) (.cells #[.slice (some ⟨w.heap.size, 0, none⟩) k k, .int .u64 0, .int .i64 0] 63)
  have g1 := heap_alloc2_old w (.cells cur 40) (.cells #[.slice (some ⟨w.heap.size, 0, none⟩) k k, .int .u64 0, .int .i64 0] 63)
  refine ⟨by simpa using g0, ⟨cur, g1, hR.out⟩, by omega, by have := HK.out; omega⟩
set_option maxHeartbeats 1000000 in
theorem len_any (w : World) {g r n : Nat} {ring : Nat → Option Addr} {newest count : Nat} (h : LG w g r n ring newest count) :
    Calls Try.prog 20 #[.pointer (some ⟨g, 0, none⟩)] w fun e w' => e = .returned (.int .i64 (count : Int)) ∧ w = w' := by
  have HZ := Lib.hid (zero_any w h)
  have c2 := h.c2
  clear h
  go_enter Try.func20, Try.ntmps20
  go_wp2_with fail
  ((with_reducible refine HZ.out.mono ?_); rintro e w1 ⟨rfl, rfl⟩)
  go_wp2
  go_ret
  exact ⟨rfl, rfl⟩
set_option maxHeartbeats 1000000 in
theorem newest_any (w : World) {g r n : Nat} {ring : Nat → Option Addr} {newest count : Nat} (h : LG w g r n ring newest count) (hc : 0 < count) :
    Calls Try.prog 21 #[.pointer (some ⟨g, 0, none⟩)] w fun e w' => e = .returned (.tuple #[.int .u64 (newest : Int), .bool true]) ∧ Dr w w' := by
  have HZ := Lib.hid (len_any w h)
  have c1 := h.c1
  have hn : ((count : Int) == 0) = false := by rw [beq_eq_false_iff_ne]; omega
  clear h
  go_enter Try.func21, Try.ntmps21
  go_wp2_with fail
  ((with_reducible refine HZ.out.mono ?_); rintro e w1 ⟨rfl, rfl⟩)
  go_wp2
  first | (go_quiet (fail); go_wp2; go_ret2; exact ⟨rfl, Dr.one _ _⟩) | (go_ret2; exact ⟨rfl, Dr.refl _⟩)
set_option maxHeartbeats 1000000 in
theorem newest_none (w : World) {g r n : Nat} {ring : Nat → Option Addr} {newest : Nat} (h : LG w g r n ring newest 0) :
    Calls Try.prog 21 #[.pointer (some ⟨g, 0, none⟩)] w fun e w' => e = .returned (.tuple #[.int .u64 0, .bool false]) ∧ w = w' := by
  have HZ := Lib.hid (len_any w h)
  clear h
  go_enter Try.func21, Try.ntmps21
  go_wp2_with fail
  ((with_reducible refine HZ.out.mono ?_); rintro e w1 ⟨rfl, rfl⟩)
  go_wp2
  go_ret2
  exact ⟨rfl, rfl⟩
set_option maxHeartbeats 1000000 in
theorem oldest_any (w : World) {g r n : Nat} {ring : Nat → Option Addr} {newest count : Nat} (h : LG w g r n ring newest count) (hc : 0 < count) (hle : count ≤ newest + 1) :
    Calls Try.prog 23 #[.pointer (some ⟨g, 0, none⟩)] w fun e w' => e = .returned (.tuple #[.int .u64 ((newest + 1 - count : Nat) : Int), .bool true]) ∧ Dr w w' := by
  have HZ := Lib.hid (len_any w h)
  have c1 := h.c1
  have c2 := h.c2
  have hl := h.lim
  have hn : ((count : Int) == 0) = false := by rw [beq_eq_false_iff_ne]; omega
  obtain ⟨o, ho⟩ : ∃ o, newest + 1 - count = o := ⟨_, rfl⟩
  have w1 : IntKind.i64.wrap ((count : Int) - 1) = (count : Int) - 1 := by rw [IntKind.wrap_i64] <;> omega
  have w2 : IntKind.u64.wrap ((count : Int) - 1) = (count : Int) - 1 := by rw [IntWalk.u64_in] <;> omega
  have w3 : IntKind.u64.wrap ((newest : Int) - ((count : Int) - 1)) = (o : Int) := by rw [IntWalk.u64_in] <;> omega
  rw [ho]
  clear h hl ho
  go_enter Try.func23, Try.ntmps23
  go_wp2_with fail
  ((with_reducible refine HZ.out.mono ?_); rintro e w1 ⟨rfl, rfl⟩)
  go_wp2
  go_quiet (fail)
  go_wp2
  go_ret2
  exact ⟨rfl, Dr.one _ _⟩
set_option maxHeartbeats 1000000 in
theorem oldest_none (w : World) {g r n : Nat} {ring : Nat → Option Addr} {newest : Nat} (h : LG w g r n ring newest 0) :
    Calls Try.prog 23 #[.pointer (some ⟨g, 0, none⟩)] w fun e w' => e = .returned (.tuple #[.int .u64 0, .bool false]) ∧ w = w' := by
  have HZ := Lib.hid (len_any w h)
  clear h
  go_enter Try.func23, Try.ntmps23
  go_wp2_with fail
  ((with_reducible refine HZ.out.mono ?_); rintro e w1 ⟨rfl, rfl⟩)
  go_wp2
  go_ret2
  exact ⟨rfl, rfl⟩
end Go.Proofs.Ytkdlfgfjahnhmaa
