import Derived.Test.YtponmokiogdejaaNetDo3
import Derived.Deep.RegionHeldLaw
namespace Go.Proofs.Ytponmokiogdejaa
open Go.RowKit
set_option linter.unusedSimpArgs false
set_option linter.unusedVariables false

set_option maxRecDepth 100000 in
set_option maxHeartbeats 16000000 in
theorem asks_in (w W : World) (g0 r0 tw : Nat) (L : List Let) (h : NR w g0 r0 L L W) (hL : L.length ≤ 1000000) (k : Nat) (hkl : k < L.length) :
    Calls Try.prog 11 #[.pointer (some ⟨g0, 0, none⟩), .pointer (some ⟨r0, 0, none⟩), .int .i64 (k : Int), .int .u64 (tw : Int)] W fun e w' => e = .returned (.bool true) ∧ Below W.heap.size W w' := by
  obtain ⟨x, hx⟩ : ∃ x, x = L[k] := ⟨_, rfl⟩
  obtain ⟨M, S, h1, ⟨A, c, xs, h2⟩, h3, h4, h5⟩ := h
  have CA := Lib.hid (show Calls Try.prog 20 #[.pointer (some ⟨g0, 0, none⟩), .int .i64 (k : Int)] W (AnsLet W x 0) by rw [hx]; exact at_in M g0 k L W h1 hkl hL)
  have htrue : decide (0 ≤ (k : Int) ∧ (k : Int) < (L.length : Int)) = true := by simp; omega
  have CI := Lib.hid fun V (hV : Below W.heap.size W V) => (show Calls Try.prog 29 #[.pointer (some ⟨r0, 0, none⟩), .int .i64 (k : Int)] V (fun e w' => e = .returned (.bool true) ∧ V = w') by have := refIs_any (k : Int) V (h2.below hV).1; rw [htrue] at this; exact this)
  have CL := Lib.hid fun V (hV : Below W.heap.size W V) => (show Calls Try.prog 26 #[.pointer (some ⟨g0, 0, none⟩)] V (Bad V L.length) by obtain ⟨A, c, xs, hn⟩ := h1.below hV; exact lenAt_any V hn.1)
  have CC := Lib.hid fun V (hV : Below W.heap.size W V) => count_any M g0 tw L V (h1.below hV) hL
  have CR := Lib.hid fun V (hV : Below W.heap.size W V) => refCount_any S r0 tw L V ⟨A, c, xs, h2.below hV⟩ hL
  obtain ⟨b, B, d, rfl, hSb, hbs, hbr, ⟨a0, a1, a2⟩, -, -, -, -, hF⟩ := h2.row hkl
  rw [← hx] at a0 a1 a2 hF
  have q0 := h2.1
  have hr0 := h2.2.2.2.2.2.2.1
  have HF := Lib.hid (hF.at (B := W.heap.size) h2.2.2.2.2.2.2.2)
  obtain ⟨n, hn⟩ : ∃ n, n = countL tw L := ⟨_, rfl⟩
  rw [← hn] at CC CR
  have ee : ((n : Int) == (n : Int)) = true := by simp
  have el : (((L.length : Nat) : Int) == ((L.length : Nat) : Int)) = true := by simp
  clear h1 h2 h3 h4 h5 hx hn hF htrue
  go_enter Try.func11, Try.ntmps11
  go_wp2_with fail
  ((with_reducible refine CA.out.mono ?_); rintro e w4 ⟨A4, d4, rfl, hx4, hc4, b4⟩)
  obtain ⟨w5, hw5⟩ : ∃ w5, (w4.alloc (.cells #[.int .u64 (x.to : Int), .slice A4 x.fr.length d4, .bool x.sp] 47)).alloc (.cells #[.int .u64 0, .slice none 0 0, .bool false] 47) = w5 := ⟨_, rfl⟩
  have l5 : Below w4.heap.size w4 w5 := by rw [← hw5]; exact ((Below.refl _ _).alloc (Nat.le_refl _) _).alloc (by simp) _
  have p8 : w5.heap[w4.heap.size]? = some (letO x A4 d4) := by rw [← hw5]; exact heap_alloc2_old w4 _ _
  have p10 : w5.heap[w4.heap.size + 1]? = some (.cells #[.int .u64 0, .slice none 0 0, .bool false] 47 (0, 0)) := by rw [← hw5]; exact heap_alloc2_new w4 _ _
  have k5 : Below W.heap.size W w5 := bthen b4 l5
  have q0 := (k5.cell (p := ⟨r0, 0, none⟩) hr0).trans q0
  have a0 := (k5.cell (p := ⟨b, k * 3, none⟩) hbs).trans a0
  have a1 := (k5.cell (p := ⟨b, k * 3 + 1, none⟩) hbs).trans a1
  have a2 := (k5.cell (p := ⟨b, k * 3 + 2, none⟩) hbs).trans a2
  have t0 : w5.cell? ⟨w4.heap.size + 1, 0, none⟩ = some (.int .u64 0) := by rw [cell_of_row _ _ 0 _ _ (0, 0) p10]; rfl
  have t1 : w5.cell? ⟨w4.heap.size + 1, 1, none⟩ = some (.slice none 0 0) := by rw [cell_of_row _ _ 1 _ _ (0, 0) p10]; rfl
  have t2 : w5.cell? ⟨w4.heap.size + 1, 2, none⟩ = some (.bool false) := by rw [cell_of_row _ _ 2 _ _ (0, 0) p10]; rfl
  have f0 := frozen_of_row w5 (w4.heap.size + 1) 0 _ _ p10
  have f1 := frozen_of_row w5 (w4.heap.size + 1) 1 _ _ p10
  have f2 := frozen_of_row w5 (w4.heap.size + 1) 2 _ _ p10
  have HX4 := Lib.hid (And.intro hx4.at l5)
  have HP := Lib.hid (And.intro p8 p10)
  have K5 := Lib.hid k5
  have z4 : W.heap.size ≤ w4.heap.size := b4.size
  clear CA hx4 hc4 p8 p10 k5 l5 b4
  go_wp2_with fail
  ((with_reducible refine (CI.out _ K5.out).mono ?_); rintro e w6 ⟨rfl, rfl⟩)
  clear hw5
  go_upto_region 5 with fail
  obtain ⟨w6, hw6⟩ : ∃ w6, ((w5.setCell ⟨w4.heap.size + 1, 0, none⟩ (.int .u64 (x.to : Int))).setCell ⟨w4.heap.size + 1, 1, none⟩ (.slice B x.fr.length d)).setCell ⟨w4.heap.size + 1, 2, none⟩ (.bool x.sp) = w6 := ⟨_, rfl⟩
  rw [hw6]
  have b6 : Below W.heap.size W w6 := by
    have hz : W.heap.size ≤ w4.heap.size + 1 := by omega
    rw [← hw6]; exact ((K5.out.setCell hz _).setCell hz _).setCell hz _
  have p10' : w6.heap[w4.heap.size + 1]? = some (letO x B d) := by
    rw [← hw6]
    exact heap_setCell_same _ _ 2 _ _ (.bool x.sp) (heap_setCell_same _ _ 1 _ _ (.slice B x.fr.length d) (heap_setCell_same _ _ 0 _ _ (.int .u64 (x.to : Int)) HP.out.2))
  have hne : ∀ k, k ≠ w4.heap.size + 1 → w6.heap[k]? = w5.heap[k]? := fun k hz => by
    rw [← hw6]
    exact (Below.heap_setCell _ _ _ _ hz).trans ((Below.heap_setCell _ _ _ _ hz).trans (Below.heap_setCell _ _ _ _ hz))
  have p8' : w6.heap[w4.heap.size]? = some (letO x A4 d4) := (hne _ (by omega)).trans HP.out.1
  have hat4 : At w6 w6.heap.size 1 A4 x.fr.length (x.fr.map u8v) := by
    have hb : Below w4.heap.size w4 w6 := by
      have hz : w4.heap.size ≤ w4.heap.size + 1 := by omega
      rw [← hw6]; exact ((HX4.out.2.setCell hz _).setCell hz _).setCell hz _
    exact HX4.out.1.then hb
  have CS := Lib.hid fun V (hV : Below w6.heap.size w6 V) => sameLetter_any x A4 B d4 d V (hat4.then hV) (HF.out.arg (bthen b6 hV))
  have hlet := Lib.hid fun V (hV : Below w6.heap.size w6 V) => And.intro (let_cells ((hV.block _ (lt_of_some p8')).trans p8')) (And.intro (let_cells ((hV.block _ (lt_of_some p10')).trans p10')) ((hV.cell (p := ⟨r0, 0, none⟩) (by have := b6.size; show r0 < w6.heap.size; omega)).trans ((b6.cell (p := ⟨r0, 0, none⟩) hr0).trans (show W.cell? ⟨r0, 0, none⟩ = some (.slice (some ⟨b, 0, none⟩) L.length c) from by
    have := K5.out.cell (p := ⟨r0, 0, none⟩) hr0
    rw [← this]; exact q0))))
  obtain ⟨⟨m0, m1, m2⟩, ⟨n0, n1, n2⟩, q6⟩ := hlet.out w6 (Below.refl _ _)
  have K6 := Lib.hid b6
  clear q0 a0 a1 a2 t0 t1 t2 f0 f1 f2 hat4 p8' p10' hne b6 hw6
  first
  | (
    go_region_held_law (fun w' => w'.cell? ⟨w4.heap.size, 0, none⟩ = some (.int .u64 (x.to : Int)) ∧ w'.cell? ⟨w4.heap.size, 1, none⟩ = some (.slice A4 x.fr.length d4) ∧ w'.cell? ⟨w4.heap.size, 2, none⟩ = some (.bool x.sp) ∧ w'.cell? ⟨w4.heap.size + 1, 0, none⟩ = some (.int .u64 (x.to : Int)) ∧ w'.cell? ⟨w4.heap.size + 1, 1, none⟩ = some (.slice B x.fr.length d) ∧ w'.cell? ⟨w4.heap.size + 1, 2, none⟩ = some (.bool x.sp) ∧ w'.cell? ⟨r0, 0, none⟩ = some (.slice (some ⟨b, 0, none⟩) L.length c)) (go_keep)
      (first
        | (go_at_call 29; (with_reducible refine (CI.out _ (by first | exact K6.out | exact K6.out.drew)).mono ?_); rintro e v1 ⟨rfl, rfl⟩)
        | (go_at_call 22; (with_reducible refine (CS.out _ (by first | exact (Below.refl _ _).drew | exact Below.refl _ _)).mono ?_); rintro e v2 ⟨rfl, b2⟩; have b2 : Below w6.heap.size w6 v2 := ⟨b2.os, b2.tape, b2.output, b2.size, b2.block⟩; obtain ⟨⟨m0, m1, m2⟩, ⟨n0, n1, n2⟩, q6⟩ := hlet.out v2 b2; have B2 := Lib.hid b2; clear b2)
        | (go_at_call 26; (with_reducible refine (CL.out _ (by first | exact (bthen K6.out B2.out).drew | exact bthen K6.out B2.out)).mono ?_); rintro e v3 ⟨rfl, b3⟩; have b3 : Below w6.heap.size w6 v3 := bthen B2.out ⟨b3.os, b3.tape, b3.output, b3.size, b3.block⟩; obtain ⟨⟨m0, m1, m2⟩, ⟨n0, n1, n2⟩, q6⟩ := hlet.out v3 b3; have B3 := Lib.hid b3; clear b3)
        | (go_at_call 27; (with_reducible refine (CC.out _ (by first | exact (bthen K6.out B3.out).drew | exact bthen K6.out B3.out)).mono ?_); rintro e v4 ⟨rfl, b4⟩; have b4 : Below w6.heap.size w6 v4 := bthen B3.out ⟨b4.os, b4.tape, b4.output, b4.size, b4.block⟩; obtain ⟨⟨m0, m1, m2⟩, ⟨n0, n1, n2⟩, q6⟩ := hlet.out v4 b4; have B4 := Lib.hid b4; clear b4)
        | (go_at_call 32; (with_reducible refine (CR.out _ (by first | exact (bthen K6.out B4.out).drew | exact bthen K6.out B4.out)).mono ?_); rintro e v5 ⟨rfl, rfl⟩)))
  | fail "held"
  all_goals
    have HB := Lib.hid (bthen K6.out B4.out)
    clear m0 m1 m2 n0 n1 n2 q6
    go_wp2
    go_ret
    exact ⟨rfl, by first | exact HB.out | exact HB.out.drew | exact Below.drewN' HB.out _⟩
set_option maxRecDepth 100000 in
set_option maxHeartbeats 16000000 in
theorem asks_out (w W : World) (g0 r0 tw : Nat) (L : List Let) (h : NR w g0 r0 L L W) (hL : L.length ≤ 1000000) (k : Int) (hkl : k < 0 ∨ (L.length : Int) ≤ k) :
    Calls Try.prog 11 #[.pointer (some ⟨g0, 0, none⟩), .pointer (some ⟨r0, 0, none⟩), .int .i64 k, .int .u64 (tw : Int)] W fun e w' => e = .returned (.bool true) ∧ Below W.heap.size W w' := by
  obtain ⟨M, S, h1, ⟨A, c, xs, h2⟩, h3, h4, h5⟩ := h
  have CA : Hid (Calls Try.prog 20 #[.pointer (some ⟨g0, 0, none⟩), .int .i64 k] W (BadLet W 17)) := by
    obtain ⟨A, c, xs, hn⟩ := h1
    exact atOut_any k W hn.1 hkl
  have hfalse : decide (0 ≤ k ∧ k < (L.length : Int)) = false := by simp; omega
  have CI := Lib.hid fun V (hV : Below W.heap.size W V) => (show Calls Try.prog 29 #[.pointer (some ⟨r0, 0, none⟩), .int .i64 k] V (fun e w' => e = .returned (.bool false) ∧ V = w') by have := refIs_any k V (h2.below hV).1; rw [hfalse] at this; exact this)
  have CL := Lib.hid fun V (hV : Below W.heap.size W V) => (show Calls Try.prog 26 #[.pointer (some ⟨g0, 0, none⟩)] V (Bad V L.length) by obtain ⟨A, c, xs, hn⟩ := h1.below hV; exact lenAt_any V hn.1)
  have CC := Lib.hid fun V (hV : Below W.heap.size W V) => count_any M g0 tw L V (h1.below hV) hL
  have CR := Lib.hid fun V (hV : Below W.heap.size W V) => refCount_any S r0 tw L V ⟨A, c, xs, h2.below hV⟩ hL
  have q0 := h2.1
  have hr0 := h2.2.2.2.2.2.2.1
  obtain ⟨n, hn⟩ : ∃ n, n = countL tw L := ⟨_, rfl⟩
  rw [← hn] at CC CR
  have ee : ((n : Int) == (n : Int)) = true := by simp
  have el : (((L.length : Nat) : Int) == ((L.length : Nat) : Int)) = true := by simp
  clear h1 h2 h3 h4 h5 hn hfalse
  go_enter Try.func11, Try.ntmps11
  go_wp2_with fail
  ((with_reducible refine CA.out.mono ?_); rintro e w4 ⟨rfl, b4⟩)
  obtain ⟨w6, hw5⟩ : ∃ w6, (w4.alloc (.cells #[.int .u64 0, .slice none 0 0, .bool false] 47)).alloc (.cells #[.int .u64 0, .slice none 0 0, .bool false] 47) = w6 := ⟨_, rfl⟩
  have l5 : Below w4.heap.size w4 w6 := by rw [← hw5]; exact ((Below.refl _ _).alloc (Nat.le_refl _) _).alloc (by simp) _
  have p8' : w6.heap[w4.heap.size]? = some (letO ⟨0, [], false⟩ none 0) := by rw [← hw5]; exact heap_alloc2_old w4 _ _
  have p10' : w6.heap[w4.heap.size + 1]? = some (letO ⟨0, [], false⟩ none 0) := by rw [← hw5]; exact heap_alloc2_new w4 _ _
  have b6 : Below W.heap.size W w6 := bthen b4 l5
  have CS := Lib.hid fun V (hV : Below w6.heap.size w6 V) => (show Calls Try.prog 22 #[.agg #[.int .u64 0, .slice none 0 0, .bool false], .agg #[.int .u64 0, .slice none 0 0, .bool false]] V _ from sameLetter_any ⟨0, [], false⟩ none none 0 0 V (At.nil _ _ _ _) (At.nil _ _ _ _))
  have hlet := Lib.hid fun V (hV : Below w6.heap.size w6 V) => (show (V.cell? ⟨w4.heap.size, 0, none⟩ = some (.int .u64 0) ∧ V.cell? ⟨w4.heap.size, 1, none⟩ = some (.slice none 0 0) ∧ V.cell? ⟨w4.heap.size, 2, none⟩ = some (.bool false)) ∧ (V.cell? ⟨w4.heap.size + 1, 0, none⟩ = some (.int .u64 0) ∧ V.cell? ⟨w4.heap.size + 1, 1, none⟩ = some (.slice none 0 0) ∧ V.cell? ⟨w4.heap.size + 1, 2, none⟩ = some (.bool false)) ∧ V.cell? ⟨r0, 0, none⟩ = some (.slice A L.length c) from And.intro (let_cells ((hV.block _ (lt_of_some p8')).trans p8')) (And.intro (let_cells ((hV.block _ (lt_of_some p10')).trans p10')) ((hV.cell (p := ⟨r0, 0, none⟩) (by have := b6.size; show r0 < w6.heap.size; omega)).trans ((b6.cell (p := ⟨r0, 0, none⟩) hr0).trans q0))))
  obtain ⟨⟨m0, m1, m2⟩, ⟨n0, n1, n2⟩, q6⟩ := hlet.out w6 (Below.refl _ _)
  have K6 := Lib.hid b6
  clear CA p8' p10' l5 b4 b6 q0
  go_wp2_with fail
  ((with_reducible refine (CI.out _ K6.out).mono ?_); rintro e w7 ⟨rfl, rfl⟩)
  clear hw5
  go_upto_region 5 with fail
  first
  | (
    go_region_held_law (fun w' => w'.cell? ⟨w4.heap.size, 0, none⟩ = some (.int .u64 0) ∧ w'.cell? ⟨w4.heap.size, 1, none⟩ = some (.slice none 0 0) ∧ w'.cell? ⟨w4.heap.size, 2, none⟩ = some (.bool false) ∧ w'.cell? ⟨w4.heap.size + 1, 0, none⟩ = some (.int .u64 0) ∧ w'.cell? ⟨w4.heap.size + 1, 1, none⟩ = some (.slice none 0 0) ∧ w'.cell? ⟨w4.heap.size + 1, 2, none⟩ = some (.bool false) ∧ w'.cell? ⟨r0, 0, none⟩ = some (.slice A L.length c)) (go_keep)
      (first
        | (go_at_call 29; (with_reducible refine (CI.out _ (by first | exact K6.out | exact K6.out.drew)).mono ?_); rintro e v1 ⟨rfl, rfl⟩)
        | (go_at_call 22; (with_reducible refine (CS.out _ (by first | exact (Below.refl _ _).drew | exact Below.refl _ _)).mono ?_); rintro e v2 ⟨rfl, b2⟩; have b2 : Below w6.heap.size w6 v2 := ⟨b2.os, b2.tape, b2.output, b2.size, b2.block⟩; obtain ⟨⟨m0, m1, m2⟩, ⟨n0, n1, n2⟩, q6⟩ := hlet.out v2 b2; have B2 := Lib.hid b2; clear b2)
        | (go_at_call 26; (with_reducible refine (CL.out _ (by first | exact (bthen K6.out B2.out).drew | exact bthen K6.out B2.out)).mono ?_); rintro e v3 ⟨rfl, b3⟩; have b3 : Below w6.heap.size w6 v3 := bthen B2.out ⟨b3.os, b3.tape, b3.output, b3.size, b3.block⟩; obtain ⟨⟨m0, m1, m2⟩, ⟨n0, n1, n2⟩, q6⟩ := hlet.out v3 b3; have B3 := Lib.hid b3; clear b3)
        | (go_at_call 27; (with_reducible refine (CC.out _ (by first | exact (bthen K6.out B3.out).drew | exact bthen K6.out B3.out)).mono ?_); rintro e v4 ⟨rfl, b4⟩; have b4 : Below w6.heap.size w6 v4 := bthen B3.out ⟨b4.os, b4.tape, b4.output, b4.size, b4.block⟩; obtain ⟨⟨m0, m1, m2⟩, ⟨n0, n1, n2⟩, q6⟩ := hlet.out v4 b4; have B4 := Lib.hid b4; clear b4)
        | (go_at_call 32; (with_reducible refine (CR.out _ (by first | exact (bthen K6.out B4.out).drew | exact bthen K6.out B4.out)).mono ?_); rintro e v5 ⟨rfl, rfl⟩)))
  | fail "held"
  all_goals
    have HB := Lib.hid (bthen K6.out B4.out)
    clear m0 m1 m2 n0 n1 n2 q6
    go_wp2
    go_ret
    exact ⟨rfl, by first | exact HB.out | exact HB.out.drew | exact Below.drewN' HB.out _⟩

theorem asks_any (w W : World) (g0 r0 tw : Nat) (L : List Let) (h : NR w g0 r0 L L W) (hL : L.length ≤ 1000000) (k : Int) :
    Calls Try.prog 11 #[.pointer (some ⟨g0, 0, none⟩), .pointer (some ⟨r0, 0, none⟩), .int .i64 k, .int .u64 (tw : Int)] W fun e w' => e = .returned (.bool true) ∧ Below W.heap.size W w' := by
  by_cases hk : k < 0 ∨ (L.length : Int) ≤ k
  · exact asks_out w W g0 r0 tw L h hL k hk
  · obtain ⟨n, rfl⟩ : ∃ n : Nat, k = (n : Int) := ⟨k.toNat, by omega⟩
    exact asks_in w W g0 r0 tw L h hL n (by omega)
end Go.Proofs.Ytponmokiogdejaa
