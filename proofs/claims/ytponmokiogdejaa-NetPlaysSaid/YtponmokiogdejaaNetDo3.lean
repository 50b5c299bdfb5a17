import Derived.Test.YtponmokiogdejaaNetDo2
namespace Go.Proofs.Ytponmokiogdejaa
open Go.RowKit
set_option linter.unusedSimpArgs false
set_option linter.unusedVariables false

theorem NP.adds {P : List (Nat × Obj)} {w W W' : World} {g0 r0 : Nat} {L R : List Let} (h : NP P w g0 r0 L R W) (hb : Below W.heap.size W W') (Q : List (Nat × Obj)) (hQ : ∀ p ∈ Q, W.heap.size ≤ p.1 ∧ W'.heap[p.1]? = some p.2) : NP (Q ++ P) w g0 r0 L R W' := by
  have hr : r0 < W.heap.size := by obtain ⟨M, S, _, ⟨A, c, xs, h2⟩, _⟩ := h; exact h2.2.2.2.2.2.2.1
  obtain ⟨M, S, h1, ⟨A, c, xs, h2⟩, h3, h4, h5, h6⟩ := h
  refine ⟨M, S, h1.below hb, ⟨A, c, xs, h2.below hb⟩, h3.trans (hb.mono h3.size), h4, h5, fun p hp => ?_⟩
  rcases List.mem_append.1 hp with hp | hp
  · have := hQ p hp
    exact ⟨fun hm => by have := h1.lt _ hm; omega, by omega, this.2⟩
  · exact ⟨(h6 p hp).1, (h6 p hp).2.1, (hb.block _ (lt_of_some (h6 p hp).2.2)).trans (h6 p hp).2.2⟩
/-- A letter's box. -/
def letO (x : Let) (A : Option Addr) (c : Nat) : Obj := .cells #[.int .u64 (x.to : Int), .slice A x.fr.length c, .bool x.sp] 47 (0, 0)
theorem let_cells {W : World} {b : Nat} {x : Let} {A : Option Addr} {c : Nat} (h : W.heap[b]? = some (letO x A c)) : W.cell? ⟨b, 0, none⟩ = some (.int .u64 (x.to : Int)) ∧ W.cell? ⟨b, 1, none⟩ = some (.slice A x.fr.length c) ∧ W.cell? ⟨b, 2, none⟩ = some (.bool x.sp) := by
  refine ⟨?_, ?_, ?_⟩
  · rw [cell_of_row _ _ 0 _ _ (0, 0) h]; rfl
  · rw [cell_of_row _ _ 1 _ _ (0, 0) h]; rfl
  · rw [cell_of_row _ _ 2 _ _ (0, 0) h]; rfl

set_option maxRecDepth 100000 in
set_option maxHeartbeats 16000000 in
theorem do_takeIn (w W : World) (g0 r0 : Nat) (L : List Let) (a : NAct) (B : Option Addr) (d : Nat) (h : NR w g0 r0 L L W) (hL : L.length ≤ 1000000) (hk : a.kind = 2) (k : Nat) (hak : a.at_ = (k : Int)) (hkl : k < L.length) :
    Calls Try.prog 10 #[.pointer (some ⟨g0, 0, none⟩), .pointer (some ⟨r0, 0, none⟩), .agg (a.cells B d)] W (DoPost w r0 (a.step L)) := by
  have hdx : dropX L (k : Int) = (L.eraseIdx k, 0) := by unfold dropX; rw [if_pos ⟨by omega, by omega⟩]; rfl
  have hstep : a.step L = L.eraseIdx k := by
    unfold NAct.step
    rw [hk, hak, hdx]
    simp
  rw [hstep]
  obtain ⟨wb, hwb⟩ : ∃ wb, W.alloc (.cells (a.cells B d) 36) = wb := ⟨_, rfl⟩
  have bb : Below W.heap.size W wb := by rw [← hwb]; exact (Below.refl _ W).alloc (Nat.le_refl _) _
  have ha : wb.heap[W.heap.size]? = some (.cells (a.cells B d) 36 (0, 0)) := by rw [← hwb]; exact heap_alloc_new W _
  have s0 : NP [(W.heap.size, .cells (a.cells B d) 36 (0, 0))] w g0 r0 L L wb := h.np.add bb (Nat.le_refl _) ha
  obtain ⟨Z, hZ⟩ : ∃ Z, Z = [(W.heap.size, Obj.cells (a.cells B d) 36 (0, 0))] := ⟨_, rfl⟩
  obtain ⟨L', hL'⟩ : ∃ L', L' = L.eraseIdx k := ⟨_, rfl⟩
  obtain ⟨x, hx⟩ : ∃ x, x = L[k] := ⟨_, rfl⟩
  rw [← hZ] at s0
  have C1 := take_np s0 k hkl hL
  rw [← hL', ← hx] at C1
  have C2 := Lib.hid fun (V : World) (P : List (Nat × Obj)) (h : NP P w g0 r0 L' L V) => (show Calls Try.prog 30 #[.pointer (some ⟨r0, 0, none⟩), .int .i64 (k : Int)] V (DidNP P w g0 r0 L' L' 0) by have := refDrop_np h (k : Int) hL; rw [hdx, ← hL'] at this; exact this)
  have HR := Lib.hid fun (V : World) (P : List (Nat × Obj)) (h : NP P w g0 r0 L' L V) => (show ∃ b c B d Q, V.cell? ⟨r0, 0, none⟩ = some (.slice (some ⟨b, 0, none⟩) L.length c) ∧ (V.cell? ⟨b, k * 3, none⟩ = some (.int .u64 (x.to : Int)) ∧ V.cell? ⟨b, k * 3 + 1, none⟩ = some (.slice B x.fr.length d) ∧ V.cell? ⟨b, k * 3 + 2, none⟩ = some (.bool x.sp)) ∧ b < V.heap.size ∧ r0 < V.heap.size ∧ Kept Q B x.fr ∧ NP (Q ++ P) w g0 r0 L' L V by rw [hx]; exact h.row hkl)
  have HA := Lib.hid fun (V : World) (hV : V.heap[W.heap.size]? = some (Obj.cells (a.cells B d) 36 (0, 0))) => act_cells (a := a) (B := B) (d := d) hV
  have A0 := HA.out wb ha
  rw [hk, hak] at A0
  obtain ⟨c0, c1, c2, c3, c4, c5⟩ := A0
  have HZ := Lib.hid hZ
  have HK := Lib.hid hak
  have C1 := Lib.hid C1
  unfold NAct.cells at hwb ⊢
  rw [hk, hak] at hwb ⊢
  have htrue : decide (0 ≤ (k : Int) ∧ (k : Int) < (L.length : Int)) = true := by simp; omega
  have HLL := Lib.hid hL'
  clear h hstep ha bb hZ hx s0 hdx hak hL'
  go_enter Try.func10, Try.ntmps10
  go_wp2_with fail
  clear hwb
  ((with_reducible refine C1.out.mono ?_); rintro e w4 ⟨A4, d4, Q4, rfl, k4, s4⟩)
  obtain ⟨b, cb, B5, d5, Q5, q0, ⟨r1, r2, r3⟩, hbl, hrl, k5, s5⟩ := HR.out w4 _ s4
  obtain ⟨w5, hw5⟩ : ∃ w5, (w4.alloc (.cells #[.int .u64 (x.to : Int), .slice A4 x.fr.length d4, .bool x.sp] 47)).alloc (.cells #[.int .u64 0, .slice none 0 0, .bool false] 47) = w5 := ⟨_, rfl⟩
  have l5 : Below w4.heap.size w4 w5 := by rw [← hw5]; exact ((Below.refl _ _).alloc (Nat.le_refl _) _).alloc (by simp) _
  have z5 : w5.heap.size = w4.heap.size + 2 := by rw [← hw5]; simp
  have p8 : w5.heap[w4.heap.size]? = some (letO x A4 d4) := by rw [← hw5]; exact heap_alloc2_old w4 _ _
  have p10 : w5.heap[w4.heap.size + 1]? = some (.cells #[.int .u64 0, .slice none 0 0, .bool false] 47 (0, 0)) := by rw [← hw5]; exact heap_alloc2_new w4 _ _
  have hact : ∀ V, Below w4.heap.size w4 V → V.heap[W.heap.size]? = some (Obj.cells (a.cells B d) 36 (0, 0)) := fun V hV => by
    have h1 := s5.box (b := W.heap.size) (o := Obj.cells (a.cells B d) 36 (0, 0)) (by rw [HZ.out]; simp)
    exact (hV.block _ (lt_of_some h1)).trans h1
  obtain ⟨-, -, -, c3, -, -⟩ := HA.out w5 (hact w5 l5)
  rw [HK.out] at c3
  have q5 := (l5.cell (p := ⟨r0, 0, none⟩) hrl).trans q0
  have r1 := (l5.cell (p := ⟨b, k * 3, none⟩) hbl).trans r1
  have r2 := (l5.cell (p := ⟨b, k * 3 + 1, none⟩) hbl).trans r2
  have r3 := (l5.cell (p := ⟨b, k * 3 + 2, none⟩) hbl).trans r3
  have t0 : w5.cell? ⟨w4.heap.size + 1, 0, none⟩ = some (.int .u64 0) := by rw [cell_of_row _ _ 0 _ _ (0, 0) p10]; rfl
  have t1 : w5.cell? ⟨w4.heap.size + 1, 1, none⟩ = some (.slice none 0 0) := by rw [cell_of_row _ _ 1 _ _ (0, 0) p10]; rfl
  have t2 : w5.cell? ⟨w4.heap.size + 1, 2, none⟩ = some (.bool false) := by rw [cell_of_row _ _ 2 _ _ (0, 0) p10]; rfl
  have f0 := frozen_of_row w5 (w4.heap.size + 1) 0 _ _ p10
  have f1 := frozen_of_row w5 (w4.heap.size + 1) 1 _ _ p10
  have f2 := frozen_of_row w5 (w4.heap.size + 1) 2 _ _ p10
  have CI := refIs_any (k : Int) w5 q5
  rw [htrue] at CI
  have CI := Lib.hid CI
  clear q0 c0 c1 c2 c4 c5 htrue
  go_wp2_with fail
  ((with_reducible refine CI.out.mono ?_); rintro e w6 ⟨rfl, rfl⟩)
  go_wp2_with fail
  obtain ⟨w6, hw6⟩ : ∃ w6, ((w5.setCell ⟨w4.heap.size + 1, 0, none⟩ (.int .u64 (x.to : Int))).setCell ⟨w4.heap.size + 1, 1, none⟩ (.slice B5 x.fr.length d5)).setCell ⟨w4.heap.size + 1, 2, none⟩ (.bool x.sp) = w6 := ⟨_, rfl⟩
  have b6 : Below w4.heap.size w4 w6 := by
    have hz : w4.heap.size ≤ w4.heap.size + 1 := by omega
    rw [← hw6]; exact ((l5.setCell hz _).setCell hz _).setCell hz _
  have p10' : w6.heap[w4.heap.size + 1]? = some (letO x B5 d5) := by
    rw [← hw6]
    exact heap_setCell_same _ _ 2 _ _ (.bool x.sp) (heap_setCell_same _ _ 1 _ _ (.slice B5 x.fr.length d5) (heap_setCell_same _ _ 0 _ _ (.int .u64 (x.to : Int)) p10))
  have p8' : w6.heap[w4.heap.size]? = some (letO x A4 d4) := by
    rw [← hw6]
    have hz : w4.heap.size ≠ w4.heap.size + 1 := by omega
    exact (Below.heap_setCell _ _ _ _ hz).trans ((Below.heap_setCell _ _ _ _ hz).trans ((Below.heap_setCell _ _ _ _ hz).trans p8))
  have s6 := s5.adds b6 [(w4.heap.size, letO x A4 d4), (w4.heap.size + 1, letO x B5 d5)] (fun p hp => by
    simp only [List.mem_cons, List.not_mem_nil, or_false] at hp
    rcases hp with rfl | rfl
    · exact ⟨Nat.le_refl _, p8'⟩
    · exact ⟨Nat.le_succ _, p10'⟩)
  have HP := Lib.hid (And.intro p8 p10)
  have L5 := Lib.hid l5
  have S6 := Lib.hid s6
  have HX := Lib.hid hw6
  clear p8 p10 l5 s5 s4 hw5 b6 p10' p8' s6 hact
  go_region
  all_goals
    first | rw [HX.out] | skip
    obtain ⟨-, -, -, c3', -, -⟩ := HA.out w6 (S6.out.box (by rw [HZ.out]; simp))
    rw [HK.out] at c3'
    clear c3 q5 r1 r2 r3 t0 t1 t2 f0 f1 f2
    go_wp2_with fail
    ((with_reducible refine (C2.out _ _ (by first | exact S6.out | exact NP.then S6.out (Below.refl _ _).drew)).mono ?_); rintro e w8 ⟨rfl, s8⟩)
    obtain ⟨m0, m1, m2⟩ := let_cells (s8.box (b := w4.heap.size) (o := letO x A4 d4) (by simp))
    obtain ⟨n0, n1, n2⟩ := let_cells (s8.box (b := w4.heap.size + 1) (o := letO x B5 d5) (by simp))
    have h1 := s8.kept k4 (fun p hp => by simp [hp])
    have h2 := s8.kept k5 (fun p hp => by simp [hp])
    have CS := Lib.hid (sameLetter_any x A4 B5 d4 d5 w8 h1 h2)
    have S8 := Lib.hid s8
    clear s8 h1 h2 c3'
    go_wp2_with fail
    ((with_reducible refine CS.out.mono ?_); rintro e w9 ⟨rfl, b9⟩)
    have HF := Lib.hid (S8.out.then b9).nr
    clear m0 m1 m2 n0 n1 n2 b9 CS
    go_wp2
    go_ret2
    exact ⟨g0, rfl, by rw [← HLL.out]; exact HF.out⟩

set_option maxRecDepth 100000 in
set_option maxHeartbeats 16000000 in
theorem do_takeOut (w W : World) (g0 r0 : Nat) (L : List Let) (a : NAct) (B : Option Addr) (d : Nat) (h : NR w g0 r0 L L W) (hL : L.length ≤ 1000000) (hk : a.kind = 2) (hak : a.at_ < 0 ∨ (L.length : Int) ≤ a.at_) :
    Calls Try.prog 10 #[.pointer (some ⟨g0, 0, none⟩), .pointer (some ⟨r0, 0, none⟩), .agg (a.cells B d)] W (DoPost w r0 (a.step L)) := by
  obtain ⟨i, hi⟩ : ∃ i, i = a.at_ := ⟨_, rfl⟩
  rw [← hi] at hak
  have hdx : dropX L i = (L, 17) := by unfold dropX; rw [if_neg (by omega)]
  have hstep : a.step L = L := by
    unfold NAct.step
    rw [hk, ← hi, hdx]
    simp
  rw [hstep]
  obtain ⟨wb, hwb⟩ : ∃ wb, W.alloc (.cells (a.cells B d) 36) = wb := ⟨_, rfl⟩
  have bb : Below W.heap.size W wb := by rw [← hwb]; exact (Below.refl _ W).alloc (Nat.le_refl _) _
  have ha : wb.heap[W.heap.size]? = some (.cells (a.cells B d) 36 (0, 0)) := by rw [← hwb]; exact heap_alloc_new W _
  have s0 : NP [(W.heap.size, .cells (a.cells B d) 36 (0, 0))] w g0 r0 L L wb := h.np.add bb (Nat.le_refl _) ha
  obtain ⟨Z, hZ⟩ : ∃ Z, Z = [(W.heap.size, Obj.cells (a.cells B d) 36 (0, 0))] := ⟨_, rfl⟩
  rw [← hZ] at s0
  have C1 : Calls Try.prog 25 #[.pointer (some ⟨g0, 0, none⟩), .int .i64 i] wb (BadLet wb 17) := by
    obtain ⟨M, S, ⟨A, c, xs, hn⟩, _⟩ := s0
    exact take_bad (some ⟨g0, 0, none⟩) i 17 (.inr rfl) wb fun W' hW' => atOut_any i W' ((hW'.cell (p := ⟨g0, 0, none⟩) hn.2.2.2.2.2.1).trans hn.1) hak
  have C2 := Lib.hid fun (V : World) (P : List (Nat × Obj)) (h : NP P w g0 r0 L L V) => (show Calls Try.prog 30 #[.pointer (some ⟨r0, 0, none⟩), .int .i64 i] V (DidNP P w g0 r0 L L 17) by have := refDrop_np h i hL; rw [hdx] at this; exact this)
  have HR : Hid (∀ (V : World) (P : List (Nat × Obj)) (h : NP P w g0 r0 L L V), Calls Try.prog 29 #[.pointer (some ⟨r0, 0, none⟩), .int .i64 i] V fun e w' => e = .returned (.bool false) ∧ V = w') := fun V P h => by
    obtain ⟨M, S, _, ⟨A, c, xs, hn⟩, _⟩ := h
    have := refIs_any i V hn.1
    rw [show decide (0 ≤ i ∧ i < (L.length : Int)) = false by simp; omega] at this
    exact this
  have HA := Lib.hid fun (V : World) (hV : V.heap[W.heap.size]? = some (Obj.cells (a.cells B d) 36 (0, 0))) => act_cells (a := a) (B := B) (d := d) hV
  have A0 := HA.out wb ha
  rw [hk, ← hi] at A0
  obtain ⟨c0, c1, c2, c3, c4, c5⟩ := A0
  have HZ := Lib.hid hZ
  have HK := Lib.hid hi
  have C1 := Lib.hid C1
  unfold NAct.cells at hwb ⊢
  rw [hk, ← hi] at hwb ⊢
  have S0 := Lib.hid s0
  clear h hstep ha bb hZ s0 hdx hi hak
  go_enter Try.func10, Try.ntmps10
  go_wp2_with fail
  clear hwb
  ((with_reducible refine C1.out.mono ?_); rintro e w4 ⟨rfl, b4⟩)
  obtain ⟨w5, hw5⟩ : ∃ w5, (w4.alloc (.cells #[.int .u64 0, .slice none 0 0, .bool false] 47)).alloc (.cells #[.int .u64 0, .slice none 0 0, .bool false] 47) = w5 := ⟨_, rfl⟩
  have l5 : Below w4.heap.size w4 w5 := by rw [← hw5]; exact ((Below.refl _ _).alloc (Nat.le_refl _) _).alloc (by simp) _
  have p8 : w5.heap[w4.heap.size]? = some (letO ⟨0, [], false⟩ none 0) := by rw [← hw5]; exact heap_alloc2_old w4 _ _
  have p10 : w5.heap[w4.heap.size + 1]? = some (letO ⟨0, [], false⟩ none 0) := by rw [← hw5]; exact heap_alloc2_new w4 _ _
  have s5 := (S0.out.then b4).adds l5 [(w4.heap.size, letO ⟨0, [], false⟩ none 0), (w4.heap.size + 1, letO ⟨0, [], false⟩ none 0)] (fun p hp => by
    simp only [List.mem_cons, List.not_mem_nil, or_false] at hp
    rcases hp with rfl | rfl
    · exact ⟨Nat.le_refl _, p8⟩
    · exact ⟨Nat.le_succ _, p10⟩)
  obtain ⟨-, -, -, c3, -, -⟩ := HA.out w5 (s5.box (by rw [HZ.out]; simp))
  rw [← HK.out] at c3
  have CI := Lib.hid (HR.out w5 _ s5)
  have S5 := Lib.hid s5
  clear c0 c1 c2 c4 c5 p8 p10 l5 s5 b4
  go_wp2_with fail
  ((with_reducible refine CI.out.mono ?_); rintro e w6 ⟨rfl, rfl⟩)
  clear hw5
  go_wp2_with fail
  ((with_reducible refine (C2.out _ _ S5.out).mono ?_); rintro e w8 ⟨rfl, s8⟩)
  obtain ⟨m0, m1, m2⟩ := let_cells (s8.box (b := w4.heap.size) (o := letO ⟨0, [], false⟩ none 0) (by simp))
  obtain ⟨n0, n1, n2⟩ := let_cells (s8.box (b := w4.heap.size + 1) (o := letO ⟨0, [], false⟩ none 0) (by simp))
  have CS := Lib.hid (show Calls Try.prog 22 #[.agg #[.int .u64 0, .slice none 0 0, .bool false], .agg #[.int .u64 0, .slice none 0 0, .bool false]] w8 _ from sameLetter_any ⟨0, [], false⟩ none none 0 0 w8 (At.nil _ _ _ _) (At.nil _ _ _ _))
  have S8 := Lib.hid s8
  have m0 : w8.cell? ⟨w4.heap.size, 0, none⟩ = some (.int .u64 0) := m0
  have m1 : w8.cell? ⟨w4.heap.size, 1, none⟩ = some (.slice none 0 0) := m1
  have m2 : w8.cell? ⟨w4.heap.size, 2, none⟩ = some (.bool false) := m2
  have n0 : w8.cell? ⟨w4.heap.size + 1, 0, none⟩ = some (.int .u64 0) := n0
  have n1 : w8.cell? ⟨w4.heap.size + 1, 1, none⟩ = some (.slice none 0 0) := n1
  have n2 : w8.cell? ⟨w4.heap.size + 1, 2, none⟩ = some (.bool false) := n2
  clear s8 c3
  go_wp2_with fail
  ((with_reducible refine CS.out.mono ?_); rintro e w9 ⟨rfl, b9⟩)
  have HF := Lib.hid (S8.out.then b9).nr
  clear m0 m1 m2 n0 n1 n2 b9 CS
  go_wp2
  go_ret2
  exact ⟨g0, rfl, HF.out⟩

/-- Whatever the call is. -/
theorem do_any (w W : World) (g0 r0 : Nat) (L : List Let) (a : NAct) (B : Option Addr) (d : Nat) (h : NR w g0 r0 L L W) (hL : L.length ≤ 1000000) (ok : a.ok) (hB : At w w.heap.size 1 B a.fr.length (a.fr.map u8v)) :
    Calls Try.prog 10 #[.pointer (some ⟨g0, 0, none⟩), .pointer (some ⟨r0, 0, none⟩), .agg (a.cells B d)] W (DoPost w r0 (a.step L)) := by
  by_cases h1 : a.kind = 1
  · exact do_send w W g0 r0 L a B d h hL h1 ok hB
  by_cases h2 : a.kind = 2
  · by_cases hi : a.at_ < 0 ∨ (L.length : Int) ≤ a.at_
    · exact do_takeOut w W g0 r0 L a B d h hL h2 hi
    · exact do_takeIn w W g0 r0 L a B d h hL h2 a.at_.toNat (by omega) (by omega)
  by_cases h3 : a.kind = 3
  · exact do_drop w W g0 r0 L a B d h hL h3
  by_cases h4 : a.kind = 4
  · exact do_double w W g0 r0 L a B d h hL h4
  by_cases h5 : a.kind = 5
  · exact do_spoil w W g0 r0 L a B d h hL h5 ok
  by_cases h6 : a.kind = 6
  · exact do_copy w W g0 r0 L a B d h hL h6
  exact do_other w W g0 r0 L a B d h (by omega)
end Go.Proofs.Ytponmokiogdejaa
