/- NetTells answers true at every input, and every argument reads afterwards as it did: 'netTells_proved'. Conditions: none but the statement's own. -/
import Derived.Test.YtponmokiogdejaaNetKnown
import Derived.Test.YtponmokiogdejaaCrcBurst0
import Derived.Test.YtponmokiogdejaaLaw
import Derived.Deep.DeepCutAuto
import Derived.Deep.CutBlock
namespace Go.Proofs.Ytponmokiogdejaa
open Go.RowKit Crc
set_option linter.unusedSimpArgs false
set_option linter.unusedVariables false

theorem nsealed_set (l : List UInt8) (p : Nat) (m : UInt8) (hp : p < (seal_ l).length) (hm : m ≠ 0) : sealed ((seal_ l).set p ((seal_ l).getD p 0 ^^^ m)) = false := by
  have hl := seal_len l
  have h4 : 4 ≤ ((seal_ l).set p ((seal_ l).getD p 0 ^^^ m)).length := by rw [List.length_set]; omega
  have h1 := (sealed_iff (seal_ l) (by omega)).1 (sealed_seal l)
  rcases hs : sealed ((seal_ l).set p ((seal_ l).getD p 0 ^^^ m)) with _ | _
  · rfl
  · exfalso
    have h2 := (sealed_iff _ h4).1 hs
    rw [reg_set _ _ _ _ hp, h1] at h2
    have h3 : halfN 32 4294967295 ^^^ halfN (8 * ((seal_ l).length - p)) m.toNat = halfN 32 4294967295 ^^^ 0 := by rw [h2, Nat.xor_zero]
    have h5 := halfN_inj0 _ (by have := u8_lt m; omega) (xor_left_inj h3)
    exact hm (UInt8.toNat_inj.1 (by rw [h5]; rfl))
theorem nopen_spoilt {k : UInt8} (l : List UInt8) (p : Nat) (m : UInt8) (hk : k ≠ 0) (hp : p < (frameL k l).length) (hm : m ≠ 0) : openK ((frameL k l).set p ((frameL k l).getD p 0 ^^^ m)) = (0, [], 11) := by
  have e : frameL k l = seal_ (k :: l) := by unfold frameL; rw [if_neg hk]
  rw [e] at hp ⊢
  exact open_none (opened_not (nsealed_set _ p m hp hm))
theorem nframeL_pos {k : UInt8} (l : List UInt8) (hk : k ≠ 0) : (frameL k l).length = l.length + 5 := by
  unfold frameL
  rw [if_neg hk, seal_len]
  simp
theorem nspoil_at {l : List UInt8} {p : Nat} {m : UInt8} (h : p < l.length) (hm : m ≠ 0) : spoilL l p m = (l.set p (l.getD p 0 ^^^ m), 0) := by unfold spoilL; rw [if_neg (by omega), if_neg hm]; rfl
theorem nu8_name {s : Nat} (h : s < 256) : ∃ k : UInt8, s = k.toNat := ⟨UInt8.ofNat s, by rw [UInt8.toNat_ofNat']; omega⟩
theorem nopen3_mk {w : World} {p : UInt8 × List UInt8 × Nat} {n : Nat} (h : p = (0, [], n)) {e : Ending} {w' : World} (ho : Open3 w p e w') : ∃ A c, e = .returned (.tuple #[.int .u8 0, .slice A 0 c, .int .i64 (n : Nat)]) ∧ Below w.heap.size w w' := by
  obtain ⟨A, c, he, _, _, hb⟩ := ho
  rw [h] at he
  exact ⟨A, c, he, hb⟩

set_option maxHeartbeats 1000000 in
theorem nown_made (A : Option Addr) (c B : Nat) (l : List UInt8) (w : World) (h1 : At w B 1 A l.length (l.map u8v)) (hm : l.length ≤ 140737488355328) :
    Calls Try.prog 17 #[.slice A l.length c] w (MadeA w l) := by
  have h : Calls Try.prog 17 #[.slice A l.length c] w (MadeB w l) := by
    obtain ⟨i0, hi, hz0, hz1, hz2⟩ := info_parts info_u8
    go_enter Try.func17, Try.ntmps17
    go_wp2_with (at_builtin; refine wpList_append_from _ rfl _ _ 34 rfl w.heap.size 5 i0 (.int .u8 0) 1 1 Try.underlying34 hi hz0 hz1 hz2 rfl (by decide) (.slice none 0 0) 0 [] rfl (World.ownsRow_nil _ _ _ _) B A l.length c (l.map u8v) rfl h1 (one_u8 l) (by unfold maxLen; omega) (by omega) (Nat.le_refl _) ?_; intro v' w1 hown hg _)
    simp only [Nat.zero_add, List.nil_append] at hown
    have hb : Below w.heap.size w w1 := grown_below (World.ownsRow_nil w w.heap.size 5 1) hg (Nat.le_refl _)
    go_ret
    exact ⟨_, rfl, hown, hb⟩
  exact h.mono fun _ _ h => h.at

theorem rem_nat (n : Int) (q : Nat) (hq : 0 < q) (hq2 : q ≤ 140737488355328) : ∃ p : Nat, p < q ∧ wrap64 ((IntKind.u64.wrap n).tmod (q : Int)) = (p : Int) := by
  have h0 : 0 ≤ IntKind.u64.wrap n := by rw [IntKind.wrap_u64]; omega
  have e := Int.tmod_eq_emod_of_nonneg (b := (q : Int)) h0
  have h1 := Int.emod_nonneg (IntKind.u64.wrap n) (show (q : Int) ≠ 0 by omega)
  have h2 := Int.emod_lt_of_pos (IntKind.u64.wrap n) (show (0 : Int) < q by omega)
  obtain ⟨p, hp⟩ := Int.eq_ofNat_of_zero_le h1
  refine ⟨p, by omega, ?_⟩
  rw [e, hp]
  exact IntWalk.wrap64_in _ (by omega)
/-- A letter's cells, laid in a block of their own. -/
theorem box_let (w : World) (x : Let) (A : Option Addr) (c : Nat) : (w.alloc (.cells #[.int .u64 (x.to : Int), .slice A x.fr.length c, .bool x.sp] 47)).cell? ⟨w.heap.size, 1, none⟩ = some (.slice A x.fr.length c) ∧ (w.alloc (.cells #[.int .u64 (x.to : Int), .slice A x.fr.length c, .bool x.sp] 47)).cell? ⟨w.heap.size, 2, none⟩ = some (.bool x.sp) := by
  have o1 := heap_alloc_new w (.cells #[.int .u64 (x.to : Int), .slice A x.fr.length c, .bool x.sp] 47)
  exact ⟨by rw [cell_of_row _ _ 1 _ _ (0, 0) o1]; rfl, by rw [cell_of_row _ _ 2 _ _ (0, 0) o1]; rfl⟩
set_option maxRecDepth 100000 in
set_option maxHeartbeats 8000000 in
theorem netTells_walk (s : Nat) (A : Option Addr) (c : Nat) (l : List UInt8) (n : Int) (t : Nat) (w : World) (hs : s < 256) (h1 : At w w.heap.size 1 A l.length (l.map u8v)) (hlc : l.length ≤ c) (hm : c ≤ 140737488351232) (ha : -9223372036854775808 ≤ n) (hb : n ≤ 9223372036854775807) (ht : t < 256) :
    Calls Try.prog 5 #[.int .u8 (s : Int), .slice A l.length c, .int .i64 n, .int .u8 (t : Int)] w fun e w' => e = .returned (.bool true) ∧ Below w.heap.size w w' := by
  obtain ⟨k, rfl⟩ := nu8_name hs
  obtain ⟨m, rfl⟩ := nu8_name ht
  by_cases hk : k = 0 ∨ m = 0
  · have C17 := Lib.hid fun W => nknown_any W
    have hz : (((k.toNat : Nat) : Int) == 0) = true ∨ ((((k.toNat : Nat) : Int) == 0) = false ∧ (((m.toNat : Nat) : Int) == 0) = true) := by
      by_cases h0 : k = 0
      · exact .inl (u8_zero h0)
      · rcases hk with hk | hk
        · exact absurd hk h0
        · exact .inr ⟨u8_nonzero h0, u8_zero hk⟩
    clear hk
    rcases hz with h0 | ⟨h0, h2⟩
    all_goals
      go_enter Try.func5, Try.ntmps5
      go_wp2_with fail
      ((with_reducible refine (C17.out _).mono ?_); rintro e w1 ⟨rfl, b1⟩)
      go_wp2
      go_ret
      exact ⟨rfl, b1⟩
  · obtain ⟨hk, hm0⟩ : k ≠ 0 ∧ m ≠ 0 := ⟨fun e => hk (.inl e), fun e => hk (.inr e)⟩
    have hk0 := u8_nonzero hk
    have hmz := u8_nonzero hm0
    have hfl0 := nframeL_pos l hk
    have hsp := fun p => nopen_spoilt l p m hk
    have hop := open_frame l hk
    obtain ⟨f, hf⟩ : ∃ f, f = frameL k l := ⟨_, rfl⟩
    rw [← hf] at hfl0 hsp hop
    have e0 : frameE k = 0 := by unfold frameE; rw [if_neg hk]
    have c1 : ∀ A c W, At W W.heap.size 1 A l.length (l.map u8v) → Calls Try.prog 16 #[.int .u8 (k.toNat : Int), .slice A l.length c] W (Ans2 W (f, 0)) := fun A c W h => by rw [hf, ← e0]; exact (frame_other k A c W.heap.size l W h (Nat.le_refl _) (by omega) hk).mono fun _ _ h => h.ans
    have C1 := Lib.hid c1
    have hf0 : ((f.length : Int) == 0) = false := by rw [beq_eq_false_iff_ne]; omega
    have hf1 : 0 < f.length := by omega
    have hf2 : f.length ≤ 140737488351237 := by omega
    obtain ⟨p, hp, hpe⟩ := rem_nat n f.length hf1 (by omega)
    have hsp := hsp p hp hm0
    have hs1 := nspoil_at hp hm0
    obtain ⟨g, hg⟩ : ∃ g, g = f.set p (f.getD p 0 ^^^ m) := ⟨_, rfl⟩
    have hgl : g.length = f.length := by rw [hg, List.length_set]
    rw [← hg] at hsp hs1
    have hs2 : ∃ g', spoilL g p m = (g', 0) := ⟨_, nspoil_at (by omega) hm0⟩
    clear c1 e0 hf hfl0
    go_enter Try.func5, Try.ntmps5
    go_wp2_with fail
    ((with_reducible refine (nown_made A c w.heap.size l w h1 (by omega)).mono ?_); rintro e w1 ⟨A1, c1, rfl, hat1, _, b1⟩)
    go_wp2_with fail
    ((with_reducible refine (C1.out A1 c1 w1 hat1).mono ?_); rintro e w2 ⟨A2, c2, rfl, hat2, hc2, b2⟩)
    have k2 := bthen b1 b2
    clear hat1 b1 b2
    obtain ⟨wa, hwa⟩ : ∃ wa, w2.alloc (.cells #[.slice none 0 0] 27) = wa := ⟨_, rfl⟩
    have s0 : St w2.heap.size w2 w2.heap.size [] wa := by rw [← hwa]; exact st_new
    have hat3 := hat2.then (show Below w2.heap.size w2 wa by rw [← hwa]; exact (Below.refl _ w2).alloc (Nat.le_refl _) _)
    obtain ⟨x, hx⟩ : ∃ x : Let, x = ⟨3, f, false⟩ := ⟨_, rfl⟩
    have D1 := Lib.hid (show Calls Try.prog 14 #[.pointer (some ⟨w2.heap.size, 0, none⟩), .int .u64 3, .slice A2 f.length c2] wa (DidSt w2.heap.size w2 w2.heap.size [x] 0) by rw [hx]; exact send_st s0 (Nat.le_refl _) 3 f A2 c2 (by simp) hat3 (by omega) (by omega))
    have D2 := Lib.hid fun (W : World) (h : St w2.heap.size w2 w2.heap.size [x] W) =>
      (show Calls Try.prog 18 #[.pointer (some ⟨w2.heap.size, 0, none⟩), .int .i64 0] W (DidSt w2.heap.size w2 w2.heap.size [x, x] 0) from double_st h (Nat.le_refl _) 0 (by simp) (by simp))
    obtain ⟨y, hy⟩ : ∃ y : Let, y = ⟨3, g, true⟩ := ⟨_, rfl⟩
    have hsx : spoilX x p m = (y, 0) := by rw [hx, hy]; unfold spoilX; simp only [hs1]; rfl
    have hsy : spoilX y p m = (y, 13) := by
      obtain ⟨g', hs2⟩ := hs2
      rw [hy]; unfold spoilX; simp only [hs2]; rfl
    have D3 := Lib.hid fun (W : World) (h : St w2.heap.size w2 w2.heap.size [x, x] W) =>
      (show Calls Try.prog 19 #[.pointer (some ⟨w2.heap.size, 0, none⟩), .int .i64 0, .int .i64 (p : Int), .int .u8 (m.toNat : Int)] W (DidSt w2.heap.size w2 w2.heap.size [y, x] 0) from by
        have h := spoil_st h (Nat.le_refl _) 0 (by simp) (by simp) p m (by omega) (by omega)
        rw [show [x, x][0] = x from rfl, hsx] at h
        exact h)
    have D4 := Lib.hid fun (W : World) (h : St w2.heap.size w2 w2.heap.size [y, x] W) =>
      (show Calls Try.prog 18 #[.pointer (some ⟨w2.heap.size, 0, none⟩), .int .i64 0] W (DidSt w2.heap.size w2 w2.heap.size [y, x, y] 0) from double_st h (Nat.le_refl _) 0 (by simp) (by simp))
    have D5 := Lib.hid fun (W : World) (h : St w2.heap.size w2 w2.heap.size [y, x, y] W) =>
      (show Calls Try.prog 19 #[.pointer (some ⟨w2.heap.size, 0, none⟩), .int .i64 2, .int .i64 (p : Int), .int .u8 (m.toNat : Int)] W (DidSt w2.heap.size w2 w2.heap.size [y, x, y] 13) from by
        have h := spoil_st h (Nat.le_refl _) 2 (by simp) (by simp) p m (by omega) (by omega)
        rw [show [y, x, y][2] = y from rfl, hsy] at h
        exact h)
    have D6 := Lib.hid fun (W : World) (h : St w2.heap.size w2 w2.heap.size [y, x, y] W) =>
      (show Calls Try.prog 20 #[.pointer (some ⟨w2.heap.size, 0, none⟩), .int .i64 0] W (AnsLet W y 0) from at_st h (Nat.le_refl _) 0 (by simp) (by simp))
    have D7 := Lib.hid fun (W : World) (h : St w2.heap.size w2 w2.heap.size [y, x, y] W) =>
      (show Calls Try.prog 20 #[.pointer (some ⟨w2.heap.size, 0, none⟩), .int .i64 1] W (AnsLet W x 0) from at_st h (Nat.le_refl _) 1 (by simp) (by simp))
    have D8 := Lib.hid fun (W : World) (h : St w2.heap.size w2 w2.heap.size [y, x, y] W) =>
      (show Calls Try.prog 20 #[.pointer (some ⟨w2.heap.size, 0, none⟩), .int .i64 2] W (AnsLet W y 0) from at_st h (Nat.le_refl _) 2 (by simp) (by simp))
    have fy : y.fr = g ∧ y.sp = true := by rw [hy]; exact ⟨rfl, rfl⟩
    have fx : x.fr = f ∧ x.sp = false := by rw [hx]; exact ⟨rfl, rfl⟩
    have D9 := Lib.hid fun A c W (h : At W W.heap.size 1 A y.fr.length (y.fr.map u8v)) (hc : y.fr.length ≤ c) => (show Calls Try.prog 21 #[.slice A y.fr.length c] W fun e w' => ∃ A c, e = .returned (.tuple #[.int .u8 0, .slice A 0 c, .int .i64 11]) ∧ Below W.heap.size W w' from (fopen_any A c W.heap.size y.fr W h (Nat.le_refl _) hc (by rw [fy.1]; omega)).mono fun e w' h => nopen3_mk (by rw [fy.1]; exact hsp) h)
    have D10 := Lib.hid fun A c W (h : At W W.heap.size 1 A x.fr.length (x.fr.map u8v)) (hc : x.fr.length ≤ c) => (show Calls Try.prog 21 #[.slice A x.fr.length c] W (Open3 W (k, l, 0)) from by
      have h9 := fopen_any A c W.heap.size x.fr W h (Nat.le_refl _) hc (by rw [fx.1]; omega)
      rw [show openK x.fr = (k, l, 0) by rw [fx.1]; exact hop] at h9
      exact h9)
    have FY := Lib.hid fy.2
    have FX := Lib.hid fx.2
    clear s0 hat2 hat3 hsx hsy fx fy hsp hs1 hs2 hop hy hx hg hgl hc2
    go_wp2_with fail
    ((with_reducible refine D1.out.mono ?_); rintro e w3 ⟨rfl, s3⟩)
    clear D1 hwa
    go_wp2_with fail
    ((with_reducible refine (D2.out _ s3).mono ?_); rintro e w4 ⟨rfl, s4⟩)
    clear D2 s3
    go_wp2_with fail
    rw [hpe]
    ((with_reducible refine (D3.out _ s4).mono ?_); rintro e w5 ⟨rfl, s5⟩)
    clear D3 s4
    go_wp2_with fail
    ((with_reducible refine (D4.out _ s5).mono ?_); rintro e w6 ⟨rfl, s6⟩)
    clear D4 s5
    go_wp2_with fail
    ((with_reducible refine (D5.out _ s6).mono ?_); rintro e w7 ⟨rfl, s7⟩)
    clear D5 s6
    go_wp2_with fail
    ((with_reducible refine (D6.out _ s7).mono ?_); rintro e w8 ⟨A8, c8, rfl, hx8, hc8, b8⟩)
    have s8 := s7.then b8 (Nat.le_refl _)
    have h8 := hx8.at
    clear D6 s7 hx8 b8
    go_wp2_with fail
    obtain ⟨v8, hv8⟩ : ∃ v8, w8.alloc (.cells #[.int .u64 (y.to : Int), .slice A8 y.fr.length c8, .bool y.sp] 47) = v8 := ⟨_, rfl⟩
    have l8 : Below w8.heap.size w8 v8 := by rw [← hv8]; exact (Below.refl _ _).alloc (Nat.le_refl _) _
    have z8 : w8.heap.size < v8.heap.size := by rw [← hv8]; simp
    have qr8 := box_let w8 y A8 c8
    rw [hv8] at qr8
    obtain ⟨q8, r8⟩ := qr8
    rw [FY.out] at r8
    rw [hv8]
    have t8 := s8.then l8 (Nat.le_refl _)
    have i8 := h8.then l8
    clear s8 h8 l8 hv8
    ((with_reducible refine (D7.out _ t8).mono ?_); rintro e w9 ⟨A9, c9, rfl, hx9, hc9, b9⟩)
    have s9 := t8.then b9 (Nat.le_refl _)
    have h9 := hx9.at
    have q8 := (b9.cell (p := ⟨w8.heap.size, 1, none⟩) z8).trans q8
    have r8 := (b9.cell (p := ⟨w8.heap.size, 2, none⟩) z8).trans r8
    have i8 := i8.then b9
    have z8 : w8.heap.size < w9.heap.size := Nat.lt_of_lt_of_le z8 b9.size
    clear D7 t8 hx9 b9
    go_wp2_with fail
    obtain ⟨v9, hv9⟩ : ∃ v9, w9.alloc (.cells #[.int .u64 (x.to : Int), .slice A9 x.fr.length c9, .bool x.sp] 47) = v9 := ⟨_, rfl⟩
    have l9 : Below w9.heap.size w9 v9 := by rw [← hv9]; exact (Below.refl _ _).alloc (Nat.le_refl _) _
    have z9 : w9.heap.size < v9.heap.size := by rw [← hv9]; simp
    have qr9 := box_let w9 x A9 c9
    rw [hv9] at qr9
    obtain ⟨q9, r9⟩ := qr9
    rw [FX.out] at r9
    rw [hv9]
    have t9 := s9.then l9 (Nat.le_refl _)
    have i9 := h9.then l9
    have q8 := (l9.cell (p := ⟨w8.heap.size, 1, none⟩) z8).trans q8
    have r8 := (l9.cell (p := ⟨w8.heap.size, 2, none⟩) z8).trans r8
    have i8 := i8.then l9
    have z8 : w8.heap.size < v9.heap.size := Nat.lt_of_lt_of_le z8 l9.size
    clear s9 h9 l9 hv9
    ((with_reducible refine (D8.out _ t9).mono ?_); rintro e w10 ⟨A10, c10, rfl, hx10, hc10, b10⟩)
    have s10 := t9.then b10 (Nat.le_refl _)
    have h10 := hx10.at
    have q8 := (b10.cell (p := ⟨w8.heap.size, 1, none⟩) z8).trans q8
    have r8 := (b10.cell (p := ⟨w8.heap.size, 2, none⟩) z8).trans r8
    have i8 := i8.then b10
    have q9 := (b10.cell (p := ⟨w9.heap.size, 1, none⟩) z9).trans q9
    have r9 := (b10.cell (p := ⟨w9.heap.size, 2, none⟩) z9).trans r9
    have i9 := i9.then b10
    have z8 : w8.heap.size < w10.heap.size := Nat.lt_of_lt_of_le z8 b10.size
    have z9 : w9.heap.size < w10.heap.size := Nat.lt_of_lt_of_le z9 b10.size
    clear D8 t9 hx10 b10
    obtain ⟨v10, hv10⟩ : ∃ v10, w10.alloc (.cells #[.int .u64 (y.to : Int), .slice A10 y.fr.length c10, .bool y.sp] 47) = v10 := ⟨_, rfl⟩
    have l10 : Below w10.heap.size w10 v10 := by rw [← hv10]; exact (Below.refl _ _).alloc (Nat.le_refl _) _
    have z10 : w10.heap.size < v10.heap.size := by rw [← hv10]; simp
    have qr10 := box_let w10 y A10 c10
    rw [hv10] at qr10
    obtain ⟨q10, r10⟩ := qr10
    rw [FY.out] at r10
    have t10 := s10.then l10 (Nat.le_refl _)
    have i10 := h10.then l10
    have q8 := (l10.cell (p := ⟨w8.heap.size, 1, none⟩) z8).trans q8
    have r8 := (l10.cell (p := ⟨w8.heap.size, 2, none⟩) z8).trans r8
    have i8 := i8.then l10
    have q9 := (l10.cell (p := ⟨w9.heap.size, 1, none⟩) z9).trans q9
    have r9 := (l10.cell (p := ⟨w9.heap.size, 2, none⟩) z9).trans r9
    have i9 := i9.then l10
    have z8 : w8.heap.size < v10.heap.size := Nat.lt_of_lt_of_le z8 l10.size
    have z9 : w9.heap.size < v10.heap.size := Nat.lt_of_lt_of_le z9 l10.size
    clear s10 h10 l10
    go_upto_region 16 with fail
    clear hv10
    go_wp2_with fail
    ((with_reducible refine (D9.out A8 c8 v10 i8 hc8).mono ?_); rintro e w11 ⟨A11, c11, rfl, b11⟩)
    have s11 := t10.then b11 (Nat.le_refl _)
    have q8 := (b11.cell (p := ⟨w8.heap.size, 1, none⟩) z8).trans q8
    have r8 := (b11.cell (p := ⟨w8.heap.size, 2, none⟩) z8).trans r8
    have i8 := i8.then b11
    have q9 := (b11.cell (p := ⟨w9.heap.size, 1, none⟩) z9).trans q9
    have r9 := (b11.cell (p := ⟨w9.heap.size, 2, none⟩) z9).trans r9
    have i9 := i9.then b11
    have q10 := (b11.cell (p := ⟨w10.heap.size, 1, none⟩) z10).trans q10
    have r10 := (b11.cell (p := ⟨w10.heap.size, 2, none⟩) z10).trans r10
    have i10 := i10.then b11
    have z8 : w8.heap.size < w11.heap.size := Nat.lt_of_lt_of_le z8 b11.size
    have z9 : w9.heap.size < w11.heap.size := Nat.lt_of_lt_of_le z9 b11.size
    have z10 : w10.heap.size < w11.heap.size := Nat.lt_of_lt_of_le z10 b11.size
    clear t10 b11
    go_wp2_with fail
    ((with_reducible refine (D10.out A9 c9 w11 i9 hc9).mono ?_); rintro e w12 ⟨A12, c12, rfl, hat12, hc12, b12⟩)
    have s12 := s11.then b12 (Nat.le_refl _)
    have q8 := (b12.cell (p := ⟨w8.heap.size, 1, none⟩) z8).trans q8
    have r8 := (b12.cell (p := ⟨w8.heap.size, 2, none⟩) z8).trans r8
    have i8 := i8.then b12
    have q9 := (b12.cell (p := ⟨w9.heap.size, 1, none⟩) z9).trans q9
    have r9 := (b12.cell (p := ⟨w9.heap.size, 2, none⟩) z9).trans r9
    have i9 := i9.then b12
    have q10 := (b12.cell (p := ⟨w10.heap.size, 1, none⟩) z10).trans q10
    have r10 := (b12.cell (p := ⟨w10.heap.size, 2, none⟩) z10).trans r10
    have i10 := i10.then b12
    have z8 : w8.heap.size < w12.heap.size := Nat.lt_of_lt_of_le z8 b12.size
    have z9 : w9.heap.size < w12.heap.size := Nat.lt_of_lt_of_le z9 b12.size
    have z10 : w10.heap.size < w12.heap.size := Nat.lt_of_lt_of_le z10 b12.size
    clear s11 b12
    go_wp2_with fail
    ((with_reducible refine (D9.out A10 c10 w12 i10 hc10).mono ?_); rintro e w13 ⟨A13, c13, rfl, b13⟩)
    have s13 := s12.then b13 (Nat.le_refl _)
    have q8 := (b13.cell (p := ⟨w8.heap.size, 1, none⟩) z8).trans q8
    have r8 := (b13.cell (p := ⟨w8.heap.size, 2, none⟩) z8).trans r8
    have i8 := i8.then b13
    have q9 := (b13.cell (p := ⟨w9.heap.size, 1, none⟩) z9).trans q9
    have r9 := (b13.cell (p := ⟨w9.heap.size, 2, none⟩) z9).trans r9
    have i9 := i9.then b13
    have q10 := (b13.cell (p := ⟨w10.heap.size, 1, none⟩) z10).trans q10
    have r10 := (b13.cell (p := ⟨w10.heap.size, 2, none⟩) z10).trans r10
    have i10 := i10.then b13
    have K13 := bthen k2 s13.bel
    have kc1 := conv_at (P := Try.prog) Try.underlying34 Try.underlying5 Try.underlying9 w13 c12 (hat12.then b13)
    have kc2 := conv_at (P := Try.prog) Try.underlying34 Try.underlying5 Try.underlying9 w13 c (h1.arg K13)
    have e1 : ((bs l).toList == (bs l).toList) = true := by simp
    have e2 : (((k.toNat : Nat) : Int) == (k.toNat : Int)) = true := by simp
    have HK := Lib.hid K13
    clear s12 b13 s13 K13 hat12 i8 i9 i10 h1 k2 D9 D10 z8 z9 z10
    go_wp2_with fail
    ((with_reducible refine (nknown_any _).mono ?_); rintro e w14 ⟨rfl, b14⟩)
    go_wp2
    go_ret
    exact ⟨rfl, bthen HK.out b14⟩

open Go.ChangeShapes Go.WideShapes in
open Go.ChangeMaps (open_string) in
theorem netTells_law : LawWalk Try.prog 5 Try.f5 := by
  intro H enc W base args ds p hval hA hsz
  rw [Try.params5] at hA hval hsz
  obtain ⟨v0, vs0, d0, ds0, p0, q0, hargs, rfl, rfl, h0, r0⟩ := trodAll_cons hA
  obtain ⟨v1, vs1, d1, ds1, p1, q1, rfl, rfl, rfl, h1, r1⟩ := trodAll_cons r0
  obtain ⟨v2, vs2, d2, ds2, p2, q2, rfl, rfl, rfl, h2, r2⟩ := trodAll_cons r1
  obtain ⟨v3, vs3, d3, ds3, p3, q3, rfl, rfl, rfl, h3, r3⟩ := trodAll_cons r2
  obtain ⟨rfl, rfl, rfl⟩ := trodAll_nil r3
  obtain rfl : args = #[v0, v1, v2, v3] := by cases args; simp_all
  obtain ⟨n0, rfl, rfl, rfl, wn0⟩ := open_int Try.underlying5 (hval 0 _ v0 rfl rfl) h0
  obtain ⟨s0, rfl, hs0⟩ := u8_nat wn0
  obtain ⟨A1, c1, l1, rfl, hat1, hlc1, hd1⟩ := open_bytes Try.underlying34 Try.underlying5 (by kernel_rfl) (hval 1 _ v1 rfl rfl) h1
  obtain ⟨n2, rfl, rfl, rfl, wn2⟩ := open_int Try.underlying3 (hval 2 _ v2 rfl rfl) h2
  obtain ⟨ha2, hb2⟩ := i64_in wn2
  obtain ⟨n3, rfl, rfl, rfl, wn3⟩ := open_int Try.underlying5 (hval 3 _ v3 rfl rfl) h3
  obtain ⟨s3, rfl, hs3⟩ := u8_nat wn3
  exact netTells_walk s0 A1 c1 l1 n2 s3 W hs0 hat1 hlc1 (bytes_reach hsz (j := 1) rfl rfl hlc1 hd1).2 ha2 hb2 hs3

set_option maxRecDepth 100000 in
theorem netTells_lifted (os : Os) (started : os.Started) (H : Type) (enc : TypeId × Value → H) :
    ReturnsInHanded {} Try.checked os 5 .any (Rows.netTellsSpec.pre6 enc Try.prog Try.f5 Rows.netTellsRow.domain false) (Rows.netTellsSpec.post enc Try.prog Try.f5 false true false false) :=
  law_lifted (s := Rows.netTellsSpec) started (by kernel_rfl) Try.func5 Try.underlying4 rfl rfl
    (by rw [Try.params5]; simp only [List.mem_cons, List.not_mem_nil, or_false, forall_eq_or_imp, forall_eq]; exact ⟨⟨by kernel_rfl, of_decide_eq_true (by kernel_rfl)⟩, ⟨by kernel_rfl, of_decide_eq_true (by kernel_rfl)⟩, ⟨by kernel_rfl, of_decide_eq_true (by kernel_rfl)⟩, ⟨by kernel_rfl, of_decide_eq_true (by kernel_rfl)⟩⟩)
    (fun H ds hl => by match ds, hl with | [_, _, _, _], _ => rfl)
    (ChangeSpec.witness6 (enc := enc) (C := Try.checked) false ⟨#[], #[.int .u8 0, .slice none 0 0, .int .i64 0, .int .u8 0], []⟩ 8 (by kernel_rfl) (by kernel_rfl) (by kernel_rfl) (by kernel_rfl)) netTells_law

theorem netTells_over : Rows.netTellsRow.holds Try.pinned (OpenSpec.ofChange Rows.netTellsSpec) :=
  OpenClaim.holds_of_wide 5 Try.f5 rfl rfl rfl rfl rfl rfl rfl ⟨rfl, rfl, rfl, rfl, rfl⟩ rfl rfl rfl rfl rfl (by kernel_rfl) Try.func5 (by kernel_rfl)
    (of_decide_eq_true (by kernel_rfl)) (by unfold Func.isWrapper; first | (rw [if_pos (by decide +kernel)]; kernel_rfl) | (rw [if_neg (by decide +kernel)]; exact ⟨rfl, rfl⟩))
    (fun os started H enc _ => netTells_lifted os started H enc)

theorem netTells_proved : Rows.NetTellsSaid := netTells_over

end Go.Proofs.Ytponmokiogdejaa
