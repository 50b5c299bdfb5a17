/- Leaves of one entry, and of two. -/
import Derived.Test.YtkdlfgfjahnhmaaLogCopies
namespace Go.Proofs.Ytkdlfgfjahnhmaa
open Go.RowKit
set_option linter.unusedSimpArgs false
set_option linter.unusedVariables false
def kA : ByteArray := ⟨#[97]⟩
def kB : ByteArray := ⟨#[98]⟩
set_option maxRecDepth 100000 in
set_option maxHeartbeats 4000000 in
theorem rising_one (A : Option Addr) (c : Nat) (w : World) :
    Calls Try.prog 63 #[.slice A 1 c, .func (.func 64) #[] #[]] w fun e w' => e = .returned (.bool true) ∧ w = w' := by
  go_enter Try.func63, Try.ntmps63
  go_wp2
  refine wp_loop_rounds 2 ?_
  rw [rounds_succ]
  go_wp2
  go_ret
  exact ⟨rfl, rfl⟩
set_option maxRecDepth 100000 in
set_option maxHeartbeats 4000000 in
theorem leaf1_ab (w : World) : Calls Try.prog 64 #[entV kA, entV kB] w fun e w' => e = .returned (.bool true) ∧ Below w.heap.size w w' := by
  unfold entV kA kB
  go_enter Try.func64, Try.ntmps64
  go_wp2
  go_ret
  refine ⟨by first | rfl | (congr 2; decide), ?_⟩
  go_grown
set_option maxRecDepth 100000 in
set_option maxHeartbeats 4000000 in
theorem rising_ab (A : Option Addr) (c B : Nat) (w : World) (h : At w B 7 A 2 (entsV [kA, kB])) (hB : B ≤ w.heap.size) :
    Calls Try.prog 63 #[.slice A 2 c, .func (.func 64) #[] #[]] w fun e w' => e = .returned (.bool true) ∧ Below w.heap.size w w' := by
  have HL := Lib.hid leaf1_ab
  unfold entV at HL
  obtain ⟨b, o, rfl, hb, c0, c1, c2, c3, c4, c5, c6⟩ := ent_at (ks := [kA, kB]) h (i := 0) (by decide)
  obtain ⟨b', o', e, _, d0, d1, d2, d3, d4, d5, d6⟩ := ent_at (ks := [kA, kB]) h (i := 1) (by decide)
  injection e with e
  injection e with e1 e2
  subst e1 e2
  simp only [List.getElem_cons_zero, List.getElem_cons_succ, Nat.zero_mul, Nat.one_mul, Nat.add_zero] at c0 c1 c2 c3 c4 c5 c6 d0 d1 d2 d3 d4 d5 d6
  clear h
  generalize kA = x at *
  generalize kB = y at *
  go_enter Try.func63, Try.ntmps63
  go_wp2
  refine wp_loop_rounds 3 ?_
  rw [rounds_succ]
  go_wp2
  go_region_with (first | (go_at_call 64; (with_reducible refine (HL.out _).mono ?_); rintro e w4 ⟨rfl, b4⟩; have b5 : Below w.heap.size w w4 := (Below.refl _ w).drew.trans b4; have HB5 := Lib.hid b5; clear b4 b5))
  all_goals
    go_wp2
    rw [rounds_succ]
    go_wp2
    go_ret
    exact ⟨rfl, HB5.out⟩
abbrev ks1 (k : ByteArray) : List ByteArray := [k]
abbrev ks2 : List ByteArray := [kA, kB]
theorem rising_oneR (k : ByteArray) (A : Option Addr) (c B : Nat) (w : World) (h : At w B 7 A 1 (entsV (ks1 k))) (hB : B ≤ w.heap.size) :
    Calls Try.prog 63 #[.slice A 1 c, .func (.func 64) #[] #[]] w fun e w' => e = .returned (.bool true) ∧ Below w.heap.size w w' :=
  (rising_one A c w).mono fun e w' ⟨he, hw⟩ => ⟨he, hw ▸ Below.refl _ _⟩
theorem rising_abR (k : ByteArray) (A : Option Addr) (c B : Nat) (w : World) (h : At w B 7 A 2 (entsV ks2)) (hB : B ≤ w.heap.size) :
    Calls Try.prog 63 #[.slice A 2 c, .func (.func 64) #[] #[]] w fun e w' => e = .returned (.bool true) ∧ Below w.heap.size w w' := rising_ab A c B w h hB
/-- A leaf at g. -/
def NodeIs (W : World) (lo g : Nat) (ks : List ByteArray) : Prop := ∃ A c, lo ≤ g ∧ (∀ b o s, A = some ⟨b, o, s⟩ → lo ≤ b) ∧ W.heap[g]? = some (.cells #[.slice A ks.length c, .slice none 0 0, .int .i64 0, .int .i64 (ks.length : Int)] 96 (0, 0)) ∧ At W W.heap.size 7 A ks.length (entsV ks)
def LeafMade (w : World) (ks : List ByteArray) (e : Ending) (w' : World) : Prop := ∃ g, e = .returned (.tuple #[.pointer (some ⟨g, 0, none⟩), .int .i64 0]) ∧ NodeIs w' w.heap.size g ks ∧ Below w.heap.size w w'
set_option maxRecDepth 100000 in
set_option maxHeartbeats 4000000 in
theorem leaf_one (k : ByteArray) (A : Option Addr) (c B : Nat) (w : World) (h : At w B 7 A 1 (entsV (ks1 k))) (hB : B ≤ w.heap.size) :
    Calls Try.prog 52 #[.slice A 1 c] w (LeafMade w (ks1 k)) := by
  have HR := Lib.hid (rising_oneR k A c B w h hB)
  have HC := Lib.hid fun V (hV : Below w.heap.size w V) => copies_any A c B (ks1 k) V (h.below hV hB) (Nat.le_trans hB hV.size) (show _ ≤ 100 by simp)
  clear h
  go_enter Try.func52, Try.ntmps52
  go_wp2_with fail
  ((with_reducible refine HR.out.mono ?_); rintro e w1 ⟨rfl, b1⟩)
  go_wp2_with fail
  ((refine (HC.out _ b1).mono ?_); rintro e w2 ⟨v, rfl, hown, b2⟩)
  obtain ⟨A2, c2, rfl, _, _, hat⟩ := own_slice hown
  have hlo : ∀ b o s, A2 = some ⟨b, o, s⟩ → w.heap.size ≤ b := fun b o s e => by
    subst e
    exact Nat.le_trans b1.size (hown.lt b rfl).1
  have k2 := bthen b1 b2
  have HLO := Lib.hid hlo
  clear hown hlo
  go_wp2
  go_ret2
  refine ⟨w2.heap.size, rfl, ⟨A2, c2, k2.size, HLO.out, ?_, (hat.alloc (Nat.le_refl _) _).more (by rw [zal]; omega)⟩, k2.alloc k2.size _⟩
  exact heap_alloc_new w2 _
set_option maxRecDepth 100000 in
set_option maxHeartbeats 4000000 in
theorem leaf_ab (k : ByteArray) (A : Option Addr) (c B : Nat) (w : World) (h : At w B 7 A 2 (entsV ks2)) (hB : B ≤ w.heap.size) :
    Calls Try.prog 52 #[.slice A 2 c] w (LeafMade w ks2) := by
  have HR := Lib.hid (rising_abR k A c B w h hB)
  have HC := Lib.hid fun V (hV : Below w.heap.size w V) => copies_any A c B ks2 V (h.below hV hB) (Nat.le_trans hB hV.size) (show _ ≤ 100 by simp)
  clear h
  go_enter Try.func52, Try.ntmps52
  go_wp2_with fail
  ((with_reducible refine HR.out.mono ?_); rintro e w1 ⟨rfl, b1⟩)
  go_wp2_with fail
  ((refine (HC.out _ b1).mono ?_); rintro e w2 ⟨v, rfl, hown, b2⟩)
  obtain ⟨A2, c2, rfl, _, _, hat⟩ := own_slice hown
  have hlo : ∀ b o s, A2 = some ⟨b, o, s⟩ → w.heap.size ≤ b := fun b o s e => by
    subst e
    exact Nat.le_trans b1.size (hown.lt b rfl).1
  have k2 := bthen b1 b2
  have HLO := Lib.hid hlo
  clear hown hlo
  go_wp2
  go_ret2
  refine ⟨w2.heap.size, rfl, ⟨A2, c2, k2.size, HLO.out, ?_, (hat.alloc (Nat.le_refl _) _).more (by rw [zal]; omega)⟩, k2.alloc k2.size _⟩
  exact heap_alloc_new w2 _
end Go.Proofs.Ytkdlfgfjahnhmaa
