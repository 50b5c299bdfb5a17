/- Letters in memory, and a net of them. -/
import Derived.Test.YtponmokiogdejaaFrameSpoil
import Derived.Test.YtponmokiogdejaaSlices
import Derived.Test.YtponmokiogdejaaRowsO
namespace Go.Proofs.Ytponmokiogdejaa
open Go.RowKit
set_option linter.unusedSimpArgs false
set_option linter.unusedVariables false

/-- A letter: to whom, its bytes, is it spoilt. -/
structure Let where
  to : Nat
  fr : List UInt8
  sp : Bool

/-- Bytes that lie in blocks of S. -/
def Fr (w : World) (S : Nat → Prop) (A : Option Addr) (l : List UInt8) : Prop :=
  0 < l.length → ∃ g o, A = some ⟨g, o, none⟩ ∧ S g ∧ ∀ j, j < l.length → w.cell? ⟨g, o + j, none⟩ = some (.int .u8 ((l.getD j 0).toNat : Int))
theorem Fr.keep {w w' : World} {S S' : Nat → Prop} (hS : ∀ g, S g → S' g) (hk : SameAt S w w') {A : Option Addr} {l : List UInt8} (h : Fr w S A l) : Fr w' S' A l := fun hl => by
  obtain ⟨g, o, e, hg, hc⟩ := h hl
  exact ⟨g, o, e, hS g hg, fun j hj => (hk ⟨g, o + j, none⟩ hg).1.trans (hc j hj)⟩
theorem Fr.at {w : World} {S : Nat → Prop} {A : Option Addr} {l : List UInt8} {B : Nat} (h : Fr w S A l) (hS : ∀ g, S g → g < B) : At w B 1 A l.length (l.map u8v) := by
  refine ⟨by simp, fun hn => ?_⟩
  obtain ⟨g, o, e, hl, hc⟩ := h hn
  refine ⟨g, o, e, hS g hl, fun j u hu => ?_⟩
  have hj : j < l.length := by have := (List.getElem?_eq_some_iff.1 hu).1; simpa using this
  rw [u8v_map_get l j hj] at hu
  injection hu with hu
  rw [hc j hj, ← hu]
  simp [List.getD, hj]
theorem Own.fr {w : World} {B : Nat} {A : Option Addr} {l : List UInt8} (h : Own w B A l) : Fr w (Span B w.heap.size none) A l := fun hl => by
  obtain ⟨g, o, e, hb, hg, hc⟩ := h hl
  exact ⟨g, o, e, ⟨hb, hg, by simp⟩, fun j hj => (hc j hj).1⟩
/-- The three cells of a letter. -/
def LetO (w : World) (S : Nat → Prop) (ds : List Value) (x : Let) : Prop :=
  ∃ A c, ds = [.int .u64 (x.to : Int), .slice A x.fr.length c, .bool x.sp] ∧ x.to < 18446744073709551616 ∧ x.fr.length ≤ 140737488355328 ∧ x.fr.length ≤ c ∧ Fr w S A x.fr
theorem LetO.keep {w w' : World} {S S' : Nat → Prop} (hS : ∀ g, S g → S' g) (hk : SameAt S w w') {ds : List Value} {x : Let} (h : LetO w S ds x) : LetO w' S' ds x := by
  obtain ⟨A, c, e, h1, h2, h3, h4⟩ := h
  exact ⟨A, c, e, h1, h2, h3, h4.keep hS hk⟩
/-- Nothing but blocks of M has changed; new ones may be there. -/
structure Only (M : Nat → Prop) (w w' : World) : Prop where
  os : w'.os = w.os
  tape : w'.tape = w.tape
  output : w'.output = w.output
  size : w.heap.size ≤ w'.heap.size
  block : ∀ k, k < w.heap.size → ¬ M k → w'.heap[k]? = w.heap[k]?
theorem Only.refl (M : Nat → Prop) (w : World) : Only M w w := ⟨rfl, rfl, rfl, Nat.le_refl _, fun _ _ _ => rfl⟩
theorem Only.of_below {M : Nat → Prop} {w w' : World} (h : Below w.heap.size w w') : Only M w w' := ⟨h.os, h.tape, h.output, h.size, fun k hk _ => h.block k hk⟩
theorem Only.below {M : Nat → Prop} {w w' : World} {B : Nat} (h : Only M w w') (hB : B ≤ w.heap.size) (hM : ∀ k, M k → B ≤ k) : Below B w w' :=
  ⟨h.os, h.tape, h.output, h.size, fun k hk => h.block k (by omega) fun hm => by have := hM k hm; omega⟩
def Plus (M : Nat → Prop) (w w' : World) (k : Nat) : Prop := M k ∨ (w.heap.size ≤ k ∧ k < w'.heap.size)
theorem Only.trans {M : Nat → Prop} {a b c : World} (h : Only M a b) (k : Only (Plus M a b) b c) : Only M a c :=
  ⟨k.os.trans h.os, k.tape.trans h.tape, k.output.trans h.output, Nat.le_trans h.size k.size, fun i hi hn => (k.block i (Nat.lt_of_lt_of_le hi h.size) fun hp => by
    rcases hp with hp | hp
    · exact hn hp
    · omega).trans (h.block i hi hn)⟩
theorem Only.drew {M : Nat → Prop} {w w' : World} (h : Only M w w') : Only M w w'.drew := ⟨h.os, h.tape, h.output, h.size, h.block⟩
/-- A net behind a pointer: its letters. -/
def NetAt (w : World) (M : Nat → Prop) (g0 : Nat) (L : List Let) (A : Option Addr) (c : Nat) (xs : List Value) : Prop :=
  w.cell? ⟨g0, 0, none⟩ = some (.slice A L.length c) ∧ w.frozen? ⟨g0, 0, none⟩ = false ∧ w.ownsRow 0 47 3 (.slice A L.length c) L.length xs ∧
    RowsO 3 (LetO w fun g => M g ∧ some g ≠ (Value.slice A L.length c).ownBlock ∧ g ≠ g0) xs L ∧ M g0 ∧ g0 < w.heap.size ∧ (∀ k, (Value.slice A L.length c).ownBlock = some k → M k ∧ k ≠ g0) ∧ (∀ k, M k → k < w.heap.size)
def NetO (w : World) (M : Nat → Prop) (g0 : Nat) (L : List Let) : Prop := ∃ A c xs, NetAt w M g0 L A c xs
theorem NetO.keep {w w' : World} {M S : Nat → Prop} {g0 : Nat} {L : List Let} (h : NetO w M g0 L) (hs : Only S w w') (hd : ∀ k, M k → ¬ S k) : NetO w' M g0 L := by
  obtain ⟨A, c, xs, h1, h2, h3, h4, h5, h6, h7, h8⟩ := h
  have hb : ∀ k, M k → w'.heap[k]? = w.heap[k]? := fun k hk => hs.block k (h8 k hk) (hd k hk)
  refine ⟨A, c, xs, (World.cell?_of_block (a := ⟨g0, 0, none⟩) (hb g0 h5)).trans h1, (World.frozen?_of_block (a := ⟨g0, 0, none⟩) (hb g0 h5)).trans h2, ⟨h3.1, ?_⟩, h4.mono fun ds x hx => hx.keep (fun _ h => h) (fun p hp => ⟨World.cell?_of_block (hb p.block hp.1), World.frozen?_of_block (hb p.block hp.1)⟩), h5, by have := hs.size; omega, h7, fun k hk => by have := hs.size; have := h8 k hk; omega⟩
  rcases h3.2 with h0 | ⟨g, cap, cur, hv, hg, hh, r⟩
  · exact .inl h0
  · refine .inr ⟨g, cap, cur, hv, hg, (hb g ?_).trans hh, r⟩
    exact (h7 g (by rw [hv]; rfl)).1

theorem own_setO {w : World} {base size n : Nat} {e : TypeId} {v : Value} {xs : List Value} (h : w.ownsRow base e size v n xs) {b o : Nat} (hb : ∀ k, v.ownBlock = some k → k ≠ b) (u : Value) : (w.setCell ⟨b, o, none⟩ u).ownsRow base e size v n xs := by
  refine ⟨h.1, ?_⟩
  rcases h.2 with h0 | ⟨g, cap, cur, hv, hg, hh, r⟩
  · exact .inl h0
  · exact .inr ⟨g, cap, cur, hv, hg, (Below.heap_setCell w _ u g (hb g (by rw [hv]; rfl))).trans hh, r⟩
/-- A letter that was appended. -/
theorem net_append {w w4 w5 : World} {M : Nat → Prop} {g0 : Nat} {L : List Let} {A : Option Addr} {c : Nat} {xs : List Value} {x : Let} {A4 : Option Addr} {c4 : Nat} {A' : Option Addr} {c' : Nat} {o : Obj}
    (h : NetAt w M g0 L A c xs) (b4 : Below w.heap.size w w4) (hx : Own w4 w.heap.size A4 x.fr) (hto : x.to < 18446744073709551616) (hfr : x.fr.length ≤ 140737488355328) (hc4 : x.fr.length ≤ c4)
    (hown5 : w5.ownsRow 0 47 3 (.slice A' (L.length + 1) c') (L.length + 1) (xs ++ [.int .u64 (x.to : Int), .slice A4 x.fr.length c4, .bool x.sp])) (hg : (w4.alloc o).grownBy w5 (Value.slice A L.length c).ownBlock)
    (hat : (Value.slice A' (L.length + 1) c').ownBlock = (Value.slice A L.length c).ownBlock ∨ (Value.slice A' (L.length + 1) c').ownBlock = some (w4.alloc o).heap.size) :
    NetO (w5.setCell ⟨g0, 0, none⟩ (.slice A' (L.length + 1) c')) (Plus M w (w5.setCell ⟨g0, 0, none⟩ (.slice A' (L.length + 1) c'))) g0 (L ++ [x]) ∧ Only M w (w5.setCell ⟨g0, 0, none⟩ (.slice A' (L.length + 1) c')) := by
  obtain ⟨h1, h2, h3, h4, h5, h6, h7, h8⟩ := h
  have s4 := b4.size
  have s5 := hg.size
  rw [World.size_alloc] at s5 hat
  have s6 : (w5.setCell ⟨g0, 0, none⟩ (.slice A' (L.length + 1) c')).heap.size = w5.heap.size := by simp [World.setCell]
  have k5 : ∀ k, k < w4.heap.size → some k ≠ (Value.slice A L.length c).ownBlock → w5.heap[k]? = w4.heap[k]? := fun k hk hne => (hg.block k (by rw [World.size_alloc]; omega) hne).trans (heap_alloc_old _ _ hk)
  have k6 : ∀ k, k ≠ g0 → (w5.setCell ⟨g0, 0, none⟩ (.slice A' (L.length + 1) c')).heap[k]? = w5.heap[k]? := fun k hk => Below.heap_setCell w5 _ _ k hk
  have kg : w5.heap[g0]? = w.heap[g0]? := (k5 g0 (by omega) (fun e => (h7 g0 e.symm).2 rfl)).trans (b4.block g0 h6)
  have hob : ∀ k, (Value.slice A' (L.length + 1) c').ownBlock = some k → (M k ∨ (w.heap.size ≤ k ∧ k < w5.heap.size)) ∧ k ≠ g0 := fun k hk => by
    rcases hat with e | e
    · rw [e] at hk
      exact ⟨.inl (h7 k hk).1, (h7 k hk).2⟩
    · rw [e] at hk
      injection hk with hk
      have hlt := (hown5.lt k (by rw [e, hk])).2
      exact ⟨.inr ⟨by omega, hlt⟩, by omega⟩
  have hS1 : ∀ g, (M g ∧ some g ≠ (Value.slice A L.length c).ownBlock ∧ g ≠ g0) → (Plus M w (w5.setCell ⟨g0, 0, none⟩ (.slice A' (L.length + 1) c')) g ∧ some g ≠ (Value.slice A' (L.length + 1) c').ownBlock ∧ g ≠ g0) := fun g hg' => by
    refine ⟨.inl hg'.1, ?_, hg'.2.2⟩
    rcases hat with e | e
    · rw [e]; exact hg'.2.1
    · rw [e]; intro h; injection h with h; have := h8 g hg'.1; omega
  have hK1 : SameAt (fun g => M g ∧ some g ≠ (Value.slice A L.length c).ownBlock ∧ g ≠ g0) w (w5.setCell ⟨g0, 0, none⟩ (.slice A' (L.length + 1) c')) := fun p hp => by
    have hk : (w5.setCell ⟨g0, 0, none⟩ (.slice A' (L.length + 1) c')).heap[p.block]? = w.heap[p.block]? := (k6 _ hp.2.2).trans ((k5 _ (by have := h8 _ hp.1; omega) hp.2.1).trans (b4.block _ (h8 _ hp.1)))
    exact ⟨World.cell?_of_block hk, World.frozen?_of_block hk⟩
  have hS2 : ∀ g, Span w.heap.size w4.heap.size none g → (Plus M w (w5.setCell ⟨g0, 0, none⟩ (.slice A' (L.length + 1) c')) g ∧ some g ≠ (Value.slice A' (L.length + 1) c').ownBlock ∧ g ≠ g0) := fun g hg' => by
    have g1 := hg'.1
    have g2 := hg'.2.1
    refine ⟨.inr ⟨g1, by rw [s6]; omega⟩, ?_, by omega⟩
    rcases hat with e | e
    · rw [e]; intro h; have := h8 g (h7 g h.symm).1; omega
    · rw [e]; intro h; injection h with h; omega
  have hK2 : SameAt (Span w.heap.size w4.heap.size none) w4 (w5.setCell ⟨g0, 0, none⟩ (.slice A' (L.length + 1) c')) := fun p hp => by
    have p1 := hp.1
    have hne : some p.block ≠ (Value.slice A L.length c).ownBlock := fun h => by have := h8 _ (h7 _ h.symm).1; omega
    have hk : (w5.setCell ⟨g0, 0, none⟩ (.slice A' (L.length + 1) c')).heap[p.block]? = w4.heap[p.block]? := (k6 _ (by omega)).trans (k5 _ hp.2.1 hne)
    exact ⟨World.cell?_of_block hk, World.frozen?_of_block hk⟩
  refine ⟨⟨A', c', xs ++ [.int .u64 (x.to : Int), .slice A4 x.fr.length c4, .bool x.sp], ?_⟩, hg.os.trans b4.os, hg.tape.trans b4.tape, hg.output.trans b4.output, by omega, fun k hk hn => ?_⟩
  · have hl : (L ++ [x]).length = L.length + 1 := by simp
    unfold NetAt
    rw [hl]
    have hc0 : w5.cell? ⟨g0, 0, none⟩ = some (.slice A L.length c) := (World.cell?_of_block (a := ⟨g0, 0, none⟩) kg).trans h1
    refine ⟨World.cell?_setCell_same _ _ _ hc0, ?_, own_setO hown5 (fun k hk => (hob k hk).2) _, ?_, .inl h5, by omega, fun k hk => ⟨?_, (hob k hk).2⟩, fun k hk => ?_⟩
    · rw [World.frozen?_setCell]
      exact (World.frozen?_of_block (a := ⟨g0, 0, none⟩) kg).trans h2
    · exact (h4.mono fun ds y hy => hy.keep hS1 hK1).snoc rfl ⟨A4, c4, rfl, hto, hfr, hc4, hx.fr.keep hS2 hK2⟩
    · rcases (hob k hk).1 with h | h
      · exact .inl h
      · exact .inr ⟨h.1, by rw [s6]; exact h.2⟩
    · rcases hk with hk | hk
      · have := h8 k hk; omega
      · exact hk.2
  · have hk1 : k ≠ g0 := fun e => hn (e ▸ h5)
    have hk2 : some k ≠ (Value.slice A L.length c).ownBlock := fun e => hn (h7 k e.symm).1
    exact (k6 k hk1).trans ((k5 k (by omega) hk2).trans (b4.block k hk))

theorem info_letter : (Try.prog.info? 47).map (fun i => (i.zero, i.size, i.bytes)) = some (some (.agg #[.int .u64 0, .slice none 0 0, .bool false]), 3, 40) := by kernel_rfl

def CopiedLet (w : World) (x : Let) (e : Ending) (w' : World) : Prop := ∃ A c, e = .returned (.agg #[.int .u64 (x.to : Int), .slice A x.fr.length c, .bool x.sp]) ∧ Own w' w.heap.size A x.fr ∧ x.fr.length ≤ c ∧ Below w.heap.size w w'

set_option maxRecDepth 100000 in
set_option maxHeartbeats 4000000 in
theorem copied_any (A : Option Addr) (c : Nat) (x : Let) (w : World) (h1 : At w w.heap.size 1 A x.fr.length (x.fr.map u8v)) (hm : x.fr.length ≤ 140737488355328) :
    Calls Try.prog 33 #[.agg #[.int .u64 (x.to : Int), .slice A x.fr.length c, .bool x.sp]] w (CopiedLet w x) := by
  obtain ⟨w1, hw1⟩ : ∃ w1, (w.alloc (.cells #[.int .u64 (x.to : Int), .slice A x.fr.length c, .bool x.sp] 47)).alloc (.cells #[.int .u64 0, .slice none 0 0, .bool false] 47) = w1 := ⟨_, rfl⟩
  have b1 : Below w.heap.size w w1 := by rw [← hw1]; exact ((Below.refl _ w).alloc (Nat.le_refl _) _).alloc (by simp) _
  have z1 : w1.heap.size = w.heap.size + 2 := by rw [← hw1]; simp
  have hC := clone_any A c w1.heap.size x.fr w1 (h1.arg b1) (Nat.le_refl _) (by omega)
  have hbox : Hid (∀ W, Below w1.heap.size w1 W → (W.cell? ⟨w.heap.size, 0, none⟩ = some (.int .u64 (x.to : Int)) ∧ W.cell? ⟨w.heap.size, 1, none⟩ = some (.slice A x.fr.length c) ∧ W.cell? ⟨w.heap.size, 2, none⟩ = some (.bool x.sp)) ∧
      (W.cell? ⟨w.heap.size + 1, 0, none⟩ = some (.int .u64 0) ∧ W.cell? ⟨w.heap.size + 1, 1, none⟩ = some (.slice none 0 0) ∧ W.cell? ⟨w.heap.size + 1, 2, none⟩ = some (.bool false)) ∧ (∀ g o, g = w.heap.size ∨ g = w.heap.size + 1 → W.frozen? ⟨g, o, none⟩ = false)) := fun W hW => by
    have h : W.heap[w.heap.size]? = some (.cells #[.int .u64 (x.to : Int), .slice A x.fr.length c, .bool x.sp] 47 (0, 0)) := by rw [hW.block _ (by omega), ← hw1]; exact heap_alloc2_old w _ _
    have h' : W.heap[w.heap.size + 1]? = some (.cells #[.int .u64 0, .slice none 0 0, .bool false] 47 (0, 0)) := by rw [hW.block _ (by omega), ← hw1]; exact heap_alloc2_new w _ _
    refine ⟨⟨?_, ?_, ?_⟩, ⟨?_, ?_, ?_⟩, fun g o hg => by rcases hg with rfl | rfl <;> unfold World.frozen? <;> first | (rw [h]; simp) | (rw [h']; simp)⟩
    · rw [cell_of_row _ _ 0 _ _ (0, 0) h]; rfl
    · rw [cell_of_row _ _ 1 _ _ (0, 0) h]; rfl
    · rw [cell_of_row _ _ 2 _ _ (0, 0) h]; rfl
    · rw [cell_of_row _ _ 0 _ _ (0, 0) h']; rfl
    · rw [cell_of_row _ _ 1 _ _ (0, 0) h']; rfl
    · rw [cell_of_row _ _ 2 _ _ (0, 0) h']; rfl
  obtain ⟨⟨q0, q1, q2⟩, -, -⟩ := hbox.out w1 (Below.refl _ _)
  have HC := Lib.hid hC
  have HW := Lib.hid hw1
  clear hC hw1 h1
  go_enter Try.func33, Try.ntmps33
  go_wp2_with fail
  rw [HW.out]
  ((with_reducible refine HC.out.mono ?_); rintro e w2 ⟨v, rfl, hown, b2⟩)
  obtain ⟨A', c', rfl, hc', -, -⟩ := own_slice hown
  have hO := own_of_row hown
  obtain ⟨⟨q0, q1, q2⟩, ⟨p0, p1, p2⟩, hfz⟩ := hbox.out w2 b2
  have hf1 := hfz w.heap.size 1 (.inl rfl)
  have hf2 := fun o => hfz (w.heap.size + 1) o (.inr rfl)
  have HO := Lib.hid hO
  have k2 := bthen b1 b2
  clear hown hO hfz HC
  go_wp2
  have hw : w.heap.size ≤ w.heap.size + 1 := by omega
  refine bodyPost_ret (v := .agg #[.int .u64 (x.to : Int), .slice A' x.fr.length c', .bool x.sp]) (by simp [results, Try.results33, go_sem, p0, p1, p2]) rfl ⟨A', c', rfl, ?_, hc', ((((k2.setCell (Nat.le_refl _) _).setCell hw _).setCell hw _).setCell hw _)⟩
  have h1 : ∀ g', Span w1.heap.size w2.heap.size none g' → g' ≠ w.heap.size := fun g' hg' => by have := hg'.1; omega
  have h2 : ∀ g', Span w1.heap.size w2.heap.size none g' → g' ≠ w.heap.size + 1 := fun g' hg' => by have := hg'.1; omega
  have hs := ((((SameAt.refl (Span w1.heap.size w2.heap.size none) w2).set h1 (.slice A' x.fr.length c') (p := ⟨w.heap.size, 1, none⟩)).set h2 (.int .u64 (x.to : Int)) (p := ⟨w.heap.size + 1, 0, none⟩)).set h2 (.slice A' x.fr.length c') (p := ⟨w.heap.size + 1, 1, none⟩)).set h2 (.bool x.sp) (p := ⟨w.heap.size + 1, 2, none⟩)
  refine Own.base (HO.out.keep ?_ fun g o hg hl => hs ⟨g, o, none⟩ ⟨hg, hl, by simp⟩) b1.size
  simp [World.setCell]
end Go.Proofs.Ytponmokiogdejaa
