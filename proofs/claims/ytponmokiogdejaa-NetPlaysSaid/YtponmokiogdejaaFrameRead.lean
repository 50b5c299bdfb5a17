import Derived.Test.YtponmokiogdejaaFrameFns
namespace Go.Proofs.Ytponmokiogdejaa
open Go.RowKit Crc

/-- A box of two cells behind a call. -/
theorem box2 {w w1 : World} {a b : Value} {t : TypeId} (hb : Below (w.alloc (.cells #[a, b] t)).heap.size (w.alloc (.cells #[a, b] t)) w1) :
    w1.cell? ⟨w.heap.size, 0, none⟩ = some a ∧ w1.cell? ⟨w.heap.size, 1, none⟩ = some b ∧ w1.frozen? ⟨w.heap.size, 0, none⟩ = false ∧ w1.frozen? ⟨w.heap.size, 1, none⟩ = false ∧ Below w.heap.size w w1 ∧ w.heap.size < w1.heap.size := by
  have h : w1.heap[w.heap.size]? = some (.cells #[a, b] t (0, 0)) := (hb.block w.heap.size (by simp)).trans (heap_alloc_new w _)
  exact ⟨by rw [cell_of_row _ _ 0 _ t (0, 0) h]; rfl, by rw [cell_of_row _ _ 1 _ t (0, 0) h]; rfl, frozen_of_row _ _ 0 _ t h, frozen_of_row _ _ 1 _ t h, ((Below.refl _ w).alloc (Nat.le_refl _) _).trans (hb.mono (by simp)), (Array.getElem?_eq_some_iff.1 h).1⟩

theorem old4 {w : World} {b o : Nat} {v : Value} (hc : w.cell? ⟨b, o, none⟩ = some v) (hf : w.frozen? ⟨b, o, none⟩ = false) (X Y Z U : Obj) :
    ((((w.alloc X).alloc Y).alloc Z).alloc U).cell? ⟨b, o, none⟩ = some v ∧ ((((w.alloc X).alloc Y).alloc Z).alloc U).frozen? ⟨b, o, none⟩ = false :=
  ⟨cell_alloc_l _ (cell_alloc_l _ (cell_alloc_l _ (cell_alloc_l _ hc))), frozen_alloc_l _ (cell_alloc_l _ (cell_alloc_l _ (cell_alloc_l _ hc))) (frozen_alloc_l _ (cell_alloc_l _ (cell_alloc_l _ hc)) (frozen_alloc_l _ (cell_alloc_l _ hc) (frozen_alloc_l _ hc hf)))⟩

/-- What reading a frame answers. -/
def Read3 (w : World) (p : UInt8 × List UInt8 × Nat) (e : Ending) (w' : World) : Prop :=
  ∃ A c, e = .returned (.tuple #[.agg #[.int .u8 (p.1.toNat : Int), .slice A p.2.1.length c], .int .i64 (p.2.2 : Nat)]) ∧ Own w' w.heap.size A p.2.1 ∧ p.2.1.length ≤ c ∧ Below w.heap.size w w'

/-- An opened frame's parts: a byte, and the rest. -/
theorem own_cons {w : World} {base : Nat} {v : Value} {k : UInt8} {b : List UInt8} (h : w.ownsRow base 5 1 v (k :: b).length ((k :: b).map u8v)) :
    ∃ g c A2, v = .slice (some ⟨g, 0, none⟩) (k :: b).length c ∧ base ≤ g ∧ g < w.heap.size ∧ b.length + 1 ≤ c ∧ w.cell? ⟨g, 0, none⟩ = some (.int .u8 (k.toNat : Int)) ∧
      (∀ X, (w.alloc X).cell? ⟨g, 0, none⟩ = some (.int .u8 (k.toNat : Int))) ∧ (if c = 1 then some (⟨g, 0, none⟩ : Addr) else some ⟨g, 0 + 1, none⟩) = A2 ∧
      (∀ W, w.heap.size ≤ W.heap.size → (∀ o, W.cell? ⟨g, o, none⟩ = w.cell? ⟨g, o, none⟩) → (∀ o, W.frozen? ⟨g, o, none⟩ = w.frozen? ⟨g, o, none⟩) → Own W base A2 b) := by
  obtain ⟨g, c, rfl, hg, hlt⟩ := h.form (by simp)
  obtain ⟨A, c', hv, hc, _, hat⟩ := own_slice h
  injection hv with e1 e2 e3
  subst e1 e3
  have hcl := hat.2 (by simp)
  obtain ⟨b', o', e, _, hcl⟩ := hcl
  injection e with e
  injection e with e1 e2
  subst e1 e2
  have h0 := hcl 0 _ rfl
  refine ⟨g, c, _, rfl, hg, hlt, by simpa using hc, h0, fun X => by rw [World.cell?_alloc_lt _ _ _ hlt]; exact h0, rfl, fun W hW hk hfz hn => ⟨g, 0 + 1, ?_, hg, by omega, fun j hj => ?_⟩⟩
  · rw [if_neg]
    intro h1
    rw [h1, List.length_cons] at hc
    omega
  · have := hcl (j + 1) _ (u8v_map_get (k :: b) (j + 1) (by simpa using hj))
    rw [hk, hfz, show 0 + 1 + j = 0 + (j + 1) by omega]
    refine ⟨by rw [this]; simp [List.getD, hj], ?_⟩
    have hf := h.frozenAt (j + 1)
    rw [Nat.zero_add]
    exact hf

set_option maxHeartbeats 1000000 in
theorem read_any (A : Option Addr) (c B : Nat) (l : List UInt8) (w : World) (h1 : At w B 1 A l.length (l.map u8v)) (hB : B ≤ w.heap.size) (hc : l.length ≤ c) (hm : l.length ≤ 140737488355328) :
    Calls Try.prog 45 #[.slice A l.length c] w (Read3 w (openK l)) := by
  have c1 := fun W (hW : Below w.heap.size w W) => open_any A c B l W (h1.below hW hB) (Nat.le_trans hB hW.size) hc hm
  unfold OpenM at c1
  have HN : Hid (∀ w', openK l = (0, [], 11) → Below w.heap.size w w' → Read3 w (openK l) (.returned (.tuple #[.agg #[.int .u8 0, .slice none 0 0], .int .i64 11])) w') := fun w' h hb => by rw [h]; exact ⟨none, 0, rfl, Own.nil _ _ _, Nat.le_refl _, hb⟩
  cases hs : sealed l with
  | false =>
    have ho := opened_not hs
    have HO := Lib.hid (open_none ho)
    rw [hs] at c1
    have HC := Lib.hid c1
    clear c1 hs ho
    go_enter Try.func45, Try.ntmps45
    go_wp2_with fail
    refine (HC.out _ (by go_grown)).mono ?_
    rintro e w1 ⟨v1, rfl, hown, hb⟩
    obtain ⟨A1, c1, rfl, _, _, _⟩ := own_slice hown
    obtain ⟨q0, q1, f0, f1, hbw, hlt⟩ := box2 hb
    go_wp2
    refine bodyPost_ret (v := .tuple #[.agg #[.int .u8 0, .slice none 0 0], .int .i64 11]) (by simp [results, Try.results45, go_sem, q0, q1]) rfl (HN.out _ HO.out ?_)
    go_grown
  | true =>
    rw [hs] at c1
    cases ho : opened l with
    | nil =>
      rw [ho] at c1
      have HO := Lib.hid (open_none ho)
      have HC := Lib.hid c1
      clear c1 hs ho
      go_enter Try.func45, Try.ntmps45
      go_wp2_with fail
      refine (HC.out _ (by go_grown)).mono ?_
      rintro e w1 ⟨v1, rfl, hown, hb⟩
      obtain ⟨A1, c1, rfl, _, _, _⟩ := own_slice hown
      obtain ⟨q0, q1, f0, f1, hbw, hlt⟩ := box2 hb
      go_wp2
      refine bodyPost_ret (v := .tuple #[.agg #[.int .u8 0, .slice none 0 0], .int .i64 11]) (by simp [results, Try.results45, go_sem, q0, q1]) rfl (HN.out _ HO.out ?_)
      go_grown
    | cons k b =>
      rw [ho] at c1
      have hbl : b.length + 1 ≤ l.length := by have := opened_le l; rw [ho] at this; simpa using this
      have HC := Lib.hid c1
      by_cases hk : k = 0
      · have HO := Lib.hid (open_zero (hk ▸ ho))
        have HE : Hid (∀ w', Below w.heap.size w w' → Read3 w (openK l) (.returned (.tuple #[.agg #[.int .u8 0, .slice none 0 0], .int .i64 2])) w') := fun w' hb => by rw [HO.out]; exact ⟨none, 0, rfl, Own.nil _ _ _, Nat.le_refl _, hb⟩
        subst hk
        clear c1 hs ho HN
        go_enter Try.func45, Try.ntmps45
        go_wp2_with fail
        refine (HC.out _ (by go_grown)).mono ?_
        rintro e w1 ⟨v1, rfl, hown, hb⟩
        obtain ⟨g, c1, A2, rfl, hgb, hgl, hbc, hg, hg2, hA2, hat2⟩ := own_cons hown
        obtain ⟨q0, q1, f0, f1, hbw, hlt⟩ := box2 hb
        have z : (((0 : UInt8).toNat : Nat) : Int) = 0 := rfl
        rw [z] at hg
        simp only [z] at hg2
        clear z
        have hb1 : (1 : Int) ≤ (b.length : Int) + 1 := by omega
        have hgne : w.heap.size + 1 ≤ g := by simpa using hgb
        have hgx := hg2 (.cells #[.int .u8 0, .slice none 0 0] 77)
        clear hown HC hat2 hg2
        have r0 := fun X Y Z U => (old4 q0 f0 X Y Z U).1
        have r1 := fun X Y Z U => (old4 q1 f1 X Y Z U).1
        have s0 := fun X Y Z U => (old4 q0 f0 X Y Z U).2
        have s1 := fun X Y Z U => (old4 q1 f1 X Y Z U).2
        clear q0 q1 f0 f1
        go_wp2
        go_region
        all_goals
          go_wp2
          go_rounds 1
          refine bodyPost_ret (v := .tuple #[.agg #[.int .u8 0, .slice none 0 0], .int .i64 2]) (by simp [results, Try.results45, go_sem, r0, r1]) rfl (HE.out _ ?_)
          go_grown
      · have HO := Lib.hid (open_some ho hk)
        have HE : Hid (∀ W' A2 c2, Below w.heap.size w W' → Own W' w.heap.size A2 b → b.length ≤ c2 → Read3 w (openK l) (.returned (.tuple #[.agg #[.int .u8 (k.toNat : Int), .slice A2 b.length c2], .int .i64 0])) W') := fun w' A2 c2 hb hat hc => by rw [HO.out]; exact ⟨A2, c2, rfl, hat, hc, hb⟩
        have hk0 : ((k.toNat : Int) == 0) = false := by
          rw [beq_eq_false_iff_ne]
          intro h
          exact hk (UInt8.toNat_inj.1 (by rw [UInt8.toNat_zero]; omega))
        clear c1 hs ho HN hk
        go_enter Try.func45, Try.ntmps45
        go_wp2_with fail
        refine (HC.out _ (by go_grown)).mono ?_
        rintro e w1 ⟨v1, rfl, hown, hb⟩
        obtain ⟨g, c1, A2, rfl, hgb, hgl, hbc, hg, hg2, hA2, hat2⟩ := own_cons hown
        obtain ⟨q0, q1, f0, f1, hbw, hlt⟩ := box2 hb
        have hb1 : (1 : Int) ≤ (b.length : Int) + 1 := by omega
        have hgne : w.heap.size + 1 ≤ g := by simpa using hgb
        have hgx := hg2 (.cells #[.int .u8 0, .slice none 0 0] 77)
        have HT := Lib.hid hat2
        clear hown HC hat2 hg2
        have r0 := fun X Y Z U => (old4 q0 f0 X Y Z U).1
        have r1 := fun X Y Z U => (old4 q1 f1 X Y Z U).1
        have s0 := fun X Y Z U => (old4 q0 f0 X Y Z U).2
        have s1 := fun X Y Z U => (old4 q1 f1 X Y Z U).2
        clear q0 q1 f0 f1
        go_wp2
        go_region
        all_goals
          go_wp2
          refine wp_loop_rounds 2 ?_
          rw [rounds_succ]
          go_wp2
          rw [rounds_succ]
          go_wp2
          refine bodyPost_ret (v := .tuple #[.agg #[.int .u8 (k.toNat : Int), .slice A2 b.length (c1 - 1)], .int .i64 0]) (by simp [results, Try.results45, go_sem, r0, r1]) rfl (HE.out _ A2 (c1 - 1) ?_ (Own.base (HT.out _ ?_ (fun o => ?_) (fun o => ?_)) (by simp)) (by omega))
          · go_grown
          · simp only [World.size_drew, World.size_setCell, World.size_alloc]
            omega
          · rw [World.cell?_drew, World.cell?_setCell_other _ _ _ _ (fun e => by injection e with e; omega), World.cell?_setCell_other _ _ _ _ (fun e => by injection e with e; omega)]
            exact Below.cell (B := w1.heap.size) (by go_grown) (p := ⟨g, o, none⟩) hgl
          · rw [World.frozen?_drew, World.frozen?_setCell, World.frozen?_setCell]
            exact Below.frozen (B := w1.heap.size) (by go_grown) (p := ⟨g, o, none⟩) hgl
end Go.Proofs.Ytponmokiogdejaa
