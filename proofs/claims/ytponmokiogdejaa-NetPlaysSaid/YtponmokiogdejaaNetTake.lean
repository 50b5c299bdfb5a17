import Derived.Test.YtponmokiogdejaaNetBox
namespace Go.Proofs.Ytponmokiogdejaa
open Go.RowKit
set_option linter.unusedSimpArgs false
set_option linter.unusedVariables false

/-- Blocks of M, and those from one on. -/
def From (M : Nat → Prop) (lo : Nat) (w' : World) (k : Nat) : Prop := M k ∨ (lo ≤ k ∧ k < w'.heap.size)
/-- Bytes of their own, below a block. -/
def OwnTo (w : World) (B lo : Nat) (A : Option Addr) (l : List UInt8) : Prop := 0 < l.length → ∃ g o, A = some ⟨g, o, none⟩ ∧ B ≤ g ∧ g < lo ∧ ∀ j, j < l.length → w.cell? ⟨g, o + j, none⟩ = some (.int .u8 ((l.getD j 0).toNat : Int))
/-- A letter that is gone from a net, in memory of its own. -/
def TakeDid (w : World) (M : Nat → Prop) (g0 : Nat) (L' : List Let) (x : Let) (e : Ending) (w' : World) : Prop :=
  ∃ A c, e = .returned (.tuple #[.agg #[.int .u64 (x.to : Int), .slice A x.fr.length c, .bool x.sp], .int .i64 0]) ∧ (∃ lo, w.heap.size ≤ lo ∧ lo ≤ w'.heap.size ∧ OwnTo w' w.heap.size lo A x.fr ∧ NetO w' (From M lo w') g0 L') ∧ Only M w w'
theorem plus_wider {w w1 w' : World} {M : Nat → Prop} (b : Below w.heap.size w w1) : ∀ k, Plus M w1 w' k → Plus M w w' k := fun k hk => by
  rcases hk with hk | hk
  · exact .inl hk
  · exact .inr ⟨by have := b.size; omega, hk.2⟩
set_option maxRecDepth 100000 in
set_option maxHeartbeats 8000000 in
theorem take_in (M : Nat → Prop) (g0 k : Nat) (L : List Let) (w : World) (h : NetO w M g0 L) (hk : k < L.length) (hL : L.length ≤ 1000000) :
    Calls Try.prog 25 #[.pointer (some ⟨g0, 0, none⟩), .int .i64 (k : Int)] w (TakeDid w M g0 (L.eraseIdx k) L[k]) := by
  have o1 : (w.alloc (.cells #[.int .u64 0, .slice none 0 0, .bool false] 47)).heap[w.heap.size]? = some (.cells #[.int .u64 0, .slice none 0 0, .bool false] 47 (0, 0)) := heap_alloc_new w _
  obtain ⟨wa, hwa⟩ : ∃ wa, w.alloc (.cells #[.int .u64 0, .slice none 0 0, .bool false] 47) = wa := ⟨_, rfl⟩
  rw [hwa] at o1
  have ba : Below w.heap.size w wa := by rw [← hwa]; exact (Below.refl _ w).alloc (Nat.le_refl _) _
  have za : wa.heap.size = w.heap.size + 1 := by rw [← hwa]; simp
  have hlt := h.lt
  obtain ⟨x, hx⟩ : ∃ x, x = L[k] := ⟨_, rfl⟩
  have CA := Lib.hid (at_in M g0 k L wa (h.below ba) hk hL)
  have CD := Lib.hid fun W (hW : Below w.heap.size w W) => drop_in M g0 k L W (h.below hW) hk hL
  rw [← hx] at CA ⊢
  clear hx h
  go_enter Try.func25, Try.ntmps25
  go_wp2_with fail
  ((with_reducible refine CA.out.mono ?_); rintro e w1 ⟨A4, c4, rfl, hx4, hc4, b4⟩)
  have s4 := b4.size
  obtain ⟨w2, hw2⟩ : ∃ w2, w1.alloc (.cells #[.int .u64 (x.to : Int), .slice A4 x.fr.length c4, .bool x.sp] 47) = w2 := ⟨_, rfl⟩
  have k2 : Below w1.heap.size w1 w2 := by rw [← hw2]; exact (Below.refl _ _).alloc (Nat.le_refl _) _
  have z2 : w2.heap.size = w1.heap.size + 1 := by rw [← hw2]; simp
  have P2 : w2.heap[w1.heap.size]? = some (.cells #[.int .u64 (x.to : Int), .slice A4 x.fr.length c4, .bool x.sp] 47 (0, 0)) := by rw [← hw2]; exact heap_alloc_new w1 _
  have Pa : w2.heap[w.heap.size]? = some (.cells #[.int .u64 0, .slice none 0 0, .bool false] 47 (0, 0)) := (k2.block _ (by omega)).trans ((b4.block _ (by omega)).trans o1)
  have hb2 : Below w.heap.size w w2 := bthen ba (bthen b4 k2)
  clear CA o1
  go_upto_region 4 with fail
  have HX := Lib.hid (And.intro hx4 hc4)
  have rows : ∀ W : World, (∀ b, b = w.heap.size ∨ b = w1.heap.size → W.heap[b]? = w2.heap[b]?) → (W.cell? ⟨w1.heap.size, 0, none⟩ = some (.int .u64 (x.to : Int)) ∧ W.cell? ⟨w1.heap.size, 1, none⟩ = some (.slice A4 x.fr.length c4) ∧ W.cell? ⟨w1.heap.size, 2, none⟩ = some (.bool x.sp)) ∧
      (W.cell? ⟨w.heap.size, 0, none⟩ = some (.int .u64 0) ∧ W.cell? ⟨w.heap.size, 1, none⟩ = some (.slice none 0 0) ∧ W.cell? ⟨w.heap.size, 2, none⟩ = some (.bool false)) ∧ ∀ o, W.frozen? ⟨w.heap.size, o, none⟩ = false := fun W hW => by
    have e1 := (hW w1.heap.size (.inr rfl)).trans P2
    have e2 := (hW w.heap.size (.inl rfl)).trans Pa
    refine ⟨⟨?_, ?_, ?_⟩, ⟨?_, ?_, ?_⟩, fun o => frozen_of_row _ _ o _ _ e2⟩
    · rw [cell_of_row _ _ 0 _ _ (0, 0) e1]; rfl
    · rw [cell_of_row _ _ 1 _ _ (0, 0) e1]; rfl
    · rw [cell_of_row _ _ 2 _ _ (0, 0) e1]; rfl
    · rw [cell_of_row _ _ 0 _ _ (0, 0) e2]; rfl
    · rw [cell_of_row _ _ 1 _ _ (0, 0) e2]; rfl
    · rw [cell_of_row _ _ 2 _ _ (0, 0) e2]; rfl
  obtain ⟨⟨l0, l1, l2⟩, ⟨m0, m1, m2⟩, mf⟩ := rows w2 fun _ _ => rfl
  have f0 := mf 0
  have f1 := mf 1
  have f2 := mf 2
  have ROWS := Lib.hid rows
  have ne1 : w1.heap.size ≠ w.heap.size := by omega
  have ne2 : w.heap.size ≠ w1.heap.size := by omega
  have HP := Lib.hid Pa
  clear rows mf hx4 hc4 P2 Pa
  go_region_held3 (fun w' => w'.cell? ⟨w1.heap.size, 0, none⟩ = some (.int .u64 (x.to : Int)) ∧ w'.cell? ⟨w1.heap.size, 1, none⟩ = some (.slice A4 x.fr.length c4) ∧ w'.cell? ⟨w1.heap.size, 2, none⟩ = some (.bool x.sp)) (go_keep)
    (first
      | (go_at_call 15; (with_reducible refine (CD.out _ (show Below w.heap.size w w2.drew from hb2.drew)).mono ?_); rintro e w5 ⟨rfl, d1, d2⟩; have d3 : Only M w2 w5 := ⟨d2.os, d2.tape, d2.output, d2.size, d2.block⟩; have d4 : NetO w5 (Plus M w2 w5) g0 (L.eraseIdx k) := d1; obtain ⟨⟨l0, l1, l2⟩, ⟨m0, m1, m2⟩, mf⟩ := ROWS.out w5 (fun b hb => d3.block b (by rcases hb with rfl | rfl <;> omega) (fun hm => by have := hlt b hm; rcases hb with rfl | rfl <;> omega)); have f0 := mf 0; have f1 := mf 1; have f2 := mf 2; have HD := Lib.hid (And.intro d3 (And.intro d4 ((d3.block w.heap.size (by omega) (fun hm => by have := hlt _ hm; omega)).trans HP.out))); clear d1 d2 d3 d4 mf))
  all_goals
    clear l0 l1 l2 m0 m1 m2 f0 f1 f2
    go_wp2
    have hW : ∀ (W : World), W.os = w5.os → W.tape = w5.tape → W.output = w5.output → W.heap.size = w5.heap.size → (∀ k, k ≠ w.heap.size → W.heap[k]? = w5.heap[k]?) →
        (∃ lo, w.heap.size ≤ lo ∧ lo ≤ W.heap.size ∧ OwnTo W w.heap.size lo A4 x.fr ∧ NetO W (From M lo W) g0 (L.eraseIdx k)) ∧ Only M w W := fun W q1 q2 q3 q4 q5 => by
      obtain ⟨d3, d4, -⟩ := HD.out
      have s5 := d3.size
      refine ⟨⟨w2.heap.size, by omega, by omega, fun hl => ?_, ?_⟩, ?_⟩
      · obtain ⟨g, o, e, hg, hl', hc⟩ := HX.out.1 hl
        refine ⟨g, o, e, by omega, by omega, fun j hj => ?_⟩
        have hk : W.heap[g]? = w1.heap[g]? := (q5 _ (by omega)).trans ((d3.block _ (by omega) (fun hm => by have := hlt _ hm; omega)).trans (k2.block _ hl'))
        exact (World.cell?_of_block (a := ⟨g, o + j, none⟩) hk).trans (hc j hj).1
      · have h1 : NetO W (Plus M w2 w5) g0 (L.eraseIdx k) := d4.keep (S := fun k => k = w.heap.size) ⟨q1, q2, q3, by omega, fun k _ hn => q5 k hn⟩ (fun k hk e => by
          rcases hk with hk | hk
          · have := hlt k hk; omega
          · omega)
        exact NetO.wider h1 (fun k hk => by
          rcases hk with hk | hk
          · exact .inl hk
          · exact .inr ⟨hk.1, by omega⟩) (fun k hk => by
          rcases hk with hk | hk
          · have := hlt k hk; omega
          · exact hk.2)
      · refine ⟨q1.trans (d3.os.trans hb2.os), q2.trans (d3.tape.trans hb2.tape), q3.trans (d3.output.trans hb2.output), by have := hb2.size; omega, fun k hk hn => (q5 k (by omega)).trans ((d3.block k (by omega) hn).trans (hb2.block k hk))⟩
    have P3 := heap_setCell_same _ _ 2 _ _ (.bool x.sp) (heap_setCell_same _ _ 1 _ _ (.slice A4 x.fr.length c4) (heap_setCell_same _ _ 0 _ _ (.int .u64 (x.to : Int)) HD.out.2.2))
    have r0 := cell_of_row _ _ 0 _ _ (0, 0) P3
    have r1 := cell_of_row _ _ 1 _ _ (0, 0) P3
    have r2 := cell_of_row _ _ 2 _ _ (0, 0) P3
    refine bodyPost_ret (v := .tuple #[.agg #[.int .u64 (x.to : Int), .slice A4 x.fr.length c4, .bool x.sp], .int .i64 0]) (by simp [results, Try.results25, go_sem, r0, r1, r2]) rfl ⟨A4, c4, rfl, hW _ rfl rfl rfl (by simp [World.setCell]) (fun k hk => (Below.heap_setCell _ _ _ k hk).trans ((Below.heap_setCell _ _ _ k hk).trans (Below.heap_setCell _ _ _ k hk)))⟩
end Go.Proofs.Ytponmokiogdejaa
