/- FrameBack answers true at every input, and every argument reads afterwards as it did: 'frameBack_proved'. Conditions: none but the statement's own. FrameUnlike answers true at every input, and every argument reads afterwards as it did: 'frameUnlike_proved'. Conditions: none but the statement's own. -/
import Derived.Test.YthhgcjdfmnceaaaFrameLaws
namespace Go.Proofs.Ythhgcjdfmnceaaa
open Go.RowKit Crc

theorem frame0 (l : List UInt8) : frameL 0 l = [] := rfl
theorem bodyK_frame {k : UInt8} (q : UInt8) (l : List UInt8) (hk : k ≠ 0) : bodyK q (frameL k l) = if k = q then (l, 0) else ([], 13) := by
  unfold bodyK
  rw [open_frame l hk]
  by_cases h : k = q <;> simp [h]
theorem frameL_pos {k : UInt8} (l : List UInt8) (hk : k ≠ 0) : (frameL k l).length = l.length + 5 := by
  unfold frameL
  rw [if_neg hk, seal_len]
  simp
theorem frame_inj {k q : UInt8} (a b : List UInt8) (hk : k ≠ 0) (hq : q ≠ 0) : (frameL k a == frameL q b) = (decide (k = q) && (a == b)) := by
  rw [Bool.eq_iff_iff, Bool.and_eq_true, beq_iff_eq, beq_iff_eq, decide_eq_true_eq]
  constructor
  · intro h
    have h1 := open_frame a hk
    rw [h, open_frame b hq] at h1
    injection h1 with h1 h2
    injection h2 with h2 _
    exact ⟨h1.symm, h2.symm⟩
  · rintro ⟨rfl, rfl⟩
    rfl

set_option maxHeartbeats 2000000 in
theorem frameBack_walk (s : Nat) (A : Option Addr) (c : Nat) (l : List UInt8) (t : Nat) (w : World) (hs : s < 256) (h1 : At w w.heap.size 1 A l.length (l.map u8v)) (hlc : l.length ≤ c) (hm : c ≤ 140737488351232) (ht : t < 256) :
    Calls Try.prog 5 #[.int .u8 (s : Int), .slice A l.length c, .int .u8 (t : Int)] w fun e w' => e = .returned (.bool true) ∧ Below w.heap.size w w' := by
  obtain ⟨k, rfl⟩ := u8_name hs
  obtain ⟨q, rfl⟩ := u8_name ht
  by_cases hk : k = 0
  · have hk0 := u8_zero hk
    have c1 : ∀ A c W, At W W.heap.size 1 A l.length (l.map u8v) → Calls Try.prog 10 #[.int .u8 (k.toNat : Int), .slice A l.length c] W fun e w' => ∃ A c, e = .returned (.tuple #[.slice A 0 c, .int .i64 2]) ∧ Below W.heap.size W w' := fun A c W h => (frame_any k A c W.heap.size l W h (Nat.le_refl _) (by omega)).mono fun e w' ⟨A, c, he, _, _, hb⟩ => ⟨A, c, by rw [he, hk]; rfl, hb⟩
    have C1 := Lib.hid c1
    clear c1 hk
    go_enter Try.func5, Try.ntmps5
    go_wp2_with fail
    ((with_reducible refine (own_at A c w.heap.size l w h1 (by omega)).mono ?_); rintro e w1 ⟨A1, c1, rfl, hat1, _, b1⟩)
    go_wp2_with fail
    ((with_reducible refine (C1.out A1 c1 w1 hat1).mono ?_); rintro e w2 ⟨A2, c2, rfl, b2⟩)
    have k2 := bthen b1 b2
    go_wp2_with fail
    ((with_reducible refine (fknown_any w2).mono ?_); rintro e w9 ⟨rfl, b9⟩)
    have k9 := bthen k2 b9
    go_wp2
    go_ret
    exact ⟨rfl, k9⟩
  · have hk0 := u8_nonzero hk
    have hfl := frameL_pos l hk
    obtain ⟨f, hf⟩ : ∃ f, f = frameL k l := ⟨_, rfl⟩
    have e0 : frameE k = 0 := by unfold frameE; rw [if_neg hk]
    have e1 : openK f = (k, l, 0) := by rw [hf]; exact open_frame l hk
    have e2 := bodyK_frame q l hk
    rw [← hf] at hfl e2
    have c1 : ∀ A c W, At W W.heap.size 1 A l.length (l.map u8v) → Calls Try.prog 10 #[.int .u8 (k.toNat : Int), .slice A l.length c] W (Ans2 W (f, 0)) := fun A c W h => by rw [hf, ← e0]; exact frame_any k A c W.heap.size l W h (Nat.le_refl _) (by omega)
    have c2 : ∀ A c W, At W W.heap.size 1 A f.length (f.map u8v) → f.length ≤ c → Calls Try.prog 15 #[.slice A f.length c] W (Open3 W (k, l, 0)) := fun A c W h hc => by rw [← e1]; exact fopen_any A c W.heap.size f W h (Nat.le_refl _) hc (by omega)
    have c3 : ∀ A c W, At W W.heap.size 1 A f.length (f.map u8v) → f.length ≤ c → Calls Try.prog 17 #[.int .u8 (q.toNat : Int), .slice A f.length c] W (Ans2 W (if k = q then (l, 0) else ([], 13))) := fun A c W h hc => by rw [← e2]; exact fbody_any q A c W.heap.size f W h (Nat.le_refl _) hc (by omega)
    have hfl2 : f.length ≤ l.length + 5 := by omega
    clear hfl
    have C1 := Lib.hid c1
    have C2 := Lib.hid c2
    have S1 : (l == l) = true := by simp
    have S2 : (((k.toNat : Nat) : Int) != (k.toNat : Int)) = false := by simp
    clear c1 c2 hf e0 e1 e2
    by_cases hq : k = q
    · rw [if_pos hq] at c3
      have S3 : (((q.toNat : Nat) : Int) == (k.toNat : Int)) = true := by rw [hq]; simp
      have C3 := Lib.hid c3
      clear c3 hq hk
      go_enter Try.func5, Try.ntmps5
      go_wp2_with fail
      ((with_reducible refine (own_at A c w.heap.size l w h1 (by omega)).mono ?_); rintro e w1 ⟨A1, c1, rfl, hat1, _, b1⟩)
      go_wp2_with fail
      ((with_reducible refine (C1.out A1 c1 w1 hat1).mono ?_); rintro e w2 ⟨A2, c2, rfl, hat2, hc2, b2⟩)
      have k2 := bthen b1 b2
      go_wp2_with fail
      ((with_reducible refine (C2.out A2 c2 w2 hat2 hc2).mono ?_); rintro e w3 ⟨A3, c3, rfl, hat3, hc3, b3⟩)
      have k3 := bthen k2 b3
      go_wp2_with fail
      ((with_reducible refine (C3.out A2 c2 w3 (hat2.then b3) hc2).mono ?_); rintro e w4 ⟨A4, c4, rfl, hat4, hc4, b4⟩)
      have k4 := bthen k3 b4
      have cs := same_any A3 A c3 c w4.heap.size l l w4 (hat3.then b4) (h1.arg k4) (by omega)
      rw [S1] at cs
      have HS := Lib.hid cs
      clear cs hat1 hat2 hat3
      go_wp2_with fail
      ((with_reducible refine HS.out.mono ?_); rintro e w5 ⟨rfl, d5⟩)
      have k5 := bthen k4 (d5.below _)
      have cs := same_any A4 A c4 c w5.heap.size l l w5 (hat4.then (d5.below _)) (h1.arg k5) (by omega)
      rw [S1] at cs
      have HS := Lib.hid cs
      clear cs hat4
      go_wp2_with fail
      ((with_reducible refine HS.out.mono ?_); rintro e w6 ⟨rfl, d6⟩)
      have k6 := bthen k5 (d6.below _)
      go_wp2_with fail
      ((with_reducible refine (fknown_any w6).mono ?_); rintro e w9 ⟨rfl, b9⟩)
      have k9 := bthen k6 b9
      go_wp2
      go_ret
      exact ⟨rfl, k9⟩
    · rw [if_neg hq] at c3
      have S3 : (((q.toNat : Nat) : Int) == (k.toNat : Int)) = false := u8_ne (fun e => hq e.symm)
      have c4 : ∀ A c W, At W W.heap.size 1 A f.length (f.map u8v) → f.length ≤ c → Calls Try.prog 17 #[.int .u8 (q.toNat : Int), .slice A f.length c] W fun e w' => ∃ A c, e = .returned (.tuple #[.slice A 0 c, .int .i64 13]) ∧ Below W.heap.size W w' := fun A c W h hc => (c3 A c W h hc).mono fun e w' ⟨A, c, he, _, _, hb⟩ => ⟨A, c, he, hb⟩
      have C3 := Lib.hid c4
      clear c3 c4 hq hk
      go_enter Try.func5, Try.ntmps5
      go_wp2_with fail
      ((with_reducible refine (own_at A c w.heap.size l w h1 (by omega)).mono ?_); rintro e w1 ⟨A1, c1, rfl, hat1, _, b1⟩)
      go_wp2_with fail
      ((with_reducible refine (C1.out A1 c1 w1 hat1).mono ?_); rintro e w2 ⟨A2, c2, rfl, hat2, hc2, b2⟩)
      have k2 := bthen b1 b2
      go_wp2_with fail
      ((with_reducible refine (C2.out A2 c2 w2 hat2 hc2).mono ?_); rintro e w3 ⟨A3, c3, rfl, hat3, hc3, b3⟩)
      have k3 := bthen k2 b3
      go_wp2_with fail
      ((with_reducible refine (C3.out A2 c2 w3 (hat2.then b3) hc2).mono ?_); rintro e w4 ⟨A4, c4, rfl, b4⟩)
      have k4 := bthen k3 b4
      have cs := same_any A3 A c3 c w4.heap.size l l w4 (hat3.then b4) (h1.arg k4) (by omega)
      rw [S1] at cs
      have HS := Lib.hid cs
      clear cs hat1 hat2 hat3
      go_wp2_with fail
      ((with_reducible refine HS.out.mono ?_); rintro e w5 ⟨rfl, d5⟩)
      have k5 := bthen k4 (d5.below _)
      go_wp2_with fail
      ((with_reducible refine (fknown_any w5).mono ?_); rintro e w9 ⟨rfl, b9⟩)
      have k9 := bthen k5 b9
      go_wp2
      go_ret
      exact ⟨rfl, k9⟩

open Go.ChangeShapes Go.WideShapes in
open Go.ChangeMaps (open_string) in
theorem frameBack_law : LawWalk Try.prog 5 Try.f5 := by
  intro H enc W base args ds p hval hA hsz
  rw [Try.params5] at hA hval hsz
  obtain ⟨v0, vs0, d0, ds0, p0, q0, hargs, rfl, rfl, h0, r0⟩ := trodAll_cons hA
  obtain ⟨v1, vs1, d1, ds1, p1, q1, rfl, rfl, rfl, h1, r1⟩ := trodAll_cons r0
  obtain ⟨v2, vs2, d2, ds2, p2, q2, rfl, rfl, rfl, h2, r2⟩ := trodAll_cons r1
  obtain ⟨rfl, rfl, rfl⟩ := trodAll_nil r2
  obtain rfl : args = #[v0, v1, v2] := by cases args; simp_all
  obtain ⟨n0, rfl, rfl, rfl, wn0⟩ := open_int Try.underlying5 (hval 0 _ v0 rfl rfl) h0
  obtain ⟨s0, rfl, hs0⟩ := u8_nat wn0
  obtain ⟨A1, c1, l1, rfl, hat1, hlc1, hd1⟩ := open_bytes Try.underlying22 Try.underlying5 (by kernel_rfl) (hval 1 _ v1 rfl rfl) h1
  obtain ⟨n2, rfl, rfl, rfl, wn2⟩ := open_int Try.underlying5 (hval 2 _ v2 rfl rfl) h2
  obtain ⟨s2, rfl, hs2⟩ := u8_nat wn2
  exact frameBack_walk s0 A1 c1 l1 s2 W hs0 hat1 hlc1 (bytes_reach hsz (j := 1) rfl rfl hlc1 hd1).2 hs2

set_option maxRecDepth 100000 in
theorem frameBack_lifted (os : Os) (started : os.Started) (H : Type) (enc : TypeId × Value → H) :
    ReturnsInHanded {} Try.checked os 5 .any (Rows.frameBackSpec.pre6 enc Try.prog Try.f5 Rows.frameBackRow.domain false) (Rows.frameBackSpec.post enc Try.prog Try.f5 false true false false) :=
  law_lifted (s := Rows.frameBackSpec) started (by kernel_rfl) Try.func5 Try.underlying4 rfl rfl
    (by rw [Try.params5]; simp only [List.mem_cons, List.not_mem_nil, or_false, forall_eq_or_imp, forall_eq]; exact ⟨⟨by kernel_rfl, of_decide_eq_true (by kernel_rfl)⟩, ⟨by kernel_rfl, of_decide_eq_true (by kernel_rfl)⟩, ⟨by kernel_rfl, of_decide_eq_true (by kernel_rfl)⟩⟩)
    (fun H ds hl => by match ds, hl with | [_, _, _], _ => rfl)
    (ChangeSpec.witness6 (enc := enc) (C := Try.checked) false ⟨#[], #[.int .u8 0, .slice none 0 0, .int .u8 0], []⟩ 8 (by kernel_rfl) (by kernel_rfl) (by kernel_rfl) (by kernel_rfl)) frameBack_law

theorem frameBack_over : Rows.frameBackRow.holds Try.pinned (OpenSpec.ofChange Rows.frameBackSpec) :=
  OpenClaim.holds_of_wide 5 Try.f5 rfl rfl rfl rfl rfl rfl rfl ⟨rfl, rfl, rfl, rfl, rfl⟩ rfl rfl rfl rfl rfl (by kernel_rfl) Try.func5 (by kernel_rfl)
    (of_decide_eq_true (by kernel_rfl)) (by unfold Func.isWrapper; first | (rw [if_pos (by decide +kernel)]; kernel_rfl) | (rw [if_neg (by decide +kernel)]; exact ⟨rfl, rfl⟩))
    (fun os started H enc _ => frameBack_lifted os started H enc)

theorem frameBack_proved : Rows.FrameBackSaid := frameBack_over


set_option maxHeartbeats 2000000 in
theorem frameUnlike_walk (A0 : Option Addr) (c0 : Nat) (a : List UInt8) (A1 : Option Addr) (c1 : Nat) (b : List UInt8) (s t : Nat) (w : World) (h0 : At w w.heap.size 1 A0 a.length (a.map u8v)) (hc0 : a.length ≤ c0) (hm0 : c0 ≤ 140737488351232)
    (h1 : At w w.heap.size 1 A1 b.length (b.map u8v)) (hc1 : b.length ≤ c1) (hm1 : c1 ≤ 140737488351232) (hs : s < 256) (ht : t < 256) :
    Calls Try.prog 8 #[.slice A0 a.length c0, .slice A1 b.length c1, .int .u8 (s : Int), .int .u8 (t : Int)] w fun e w' => e = .returned (.bool true) ∧ Below w.heap.size w w' := by
  obtain ⟨k, rfl⟩ := u8_name hs
  obtain ⟨q, rfl⟩ := u8_name ht
  have hf0 := frameL_len k a
  have hg0 := frameL_len q b
  obtain ⟨f, hf⟩ : ∃ f, f = frameL k a := ⟨_, rfl⟩
  obtain ⟨g, hg⟩ : ∃ f, f = frameL q b := ⟨_, rfl⟩
  rw [← hf] at hf0
  rw [← hg] at hg0
  by_cases hk : k = 0
  · have c1' : ∀ A c W, At W W.heap.size 1 A a.length (a.map u8v) → Calls Try.prog 10 #[.int .u8 (k.toNat : Int), .slice A a.length c] W (Ans2 W (f, 2)) := fun A c W h => by rw [hf]; have := frame_any k A c W.heap.size a W h (Nat.le_refl _) (by omega); rw [hk] at this ⊢; exact this
    have C1 := Lib.hid c1'
    have hk0 := u8_zero hk
    clear c1' hk
    by_cases hq : q = 0
    all_goals
      obtain ⟨n, hn⟩ : ∃ n, n = frameE q := ⟨_, rfl⟩
      have c2 : ∀ A c W, At W W.heap.size 1 A b.length (b.map u8v) → Calls Try.prog 10 #[.int .u8 (q.toNat : Int), .slice A b.length c] W (Ans2 W (g, n)) := fun A c W h => by rw [hg, hn]; exact frame_any q A c W.heap.size b W h (Nat.le_refl _) (by omega)
      first | rw [show n = 2 by rw [hn, hq]; rfl] at c2 | rw [show n = 0 by rw [hn]; unfold frameE; rw [if_neg hq]] at c2
      have C2 := Lib.hid c2
      first | have hq0 := u8_zero hq | have hq0 := u8_nonzero hq
      clear c2 hn hq hf hg
      go_enter Try.func8, Try.ntmps8
      go_wp2_with fail
      ((with_reducible refine (own_at A0 c0 w.heap.size a w h0 (by omega)).mono ?_); rintro e w1 ⟨A2, c2, rfl, hat1, _, b1⟩)
      go_wp2_with fail
      ((with_reducible refine (C1.out A2 c2 w1 hat1).mono ?_); rintro e w2 ⟨A3, c3, rfl, hat2, _, b2⟩)
      have k2 := bthen b1 b2
      go_wp2_with fail
      ((with_reducible refine (own_at A1 c1 w.heap.size b w2 (h1.below k2 (Nat.le_refl _)) (by omega)).mono ?_); rintro e w3 ⟨A4, c4, rfl, hat3, _, b3⟩)
      have k3 := bthen k2 b3
      go_wp2_with fail
      ((with_reducible refine (C2.out A4 c4 w3 hat3).mono ?_); rintro e w4 ⟨A5, c5, rfl, hat4, _, b4⟩)
      have k4 := bthen k3 b4
      clear hat1 hat2 hat3 hat4
      go_wp2_with fail
      ((with_reducible refine (fknown_any w4).mono ?_); rintro e w9 ⟨rfl, b9⟩)
      have k9 := bthen k4 b9
      go_wp2
      go_ret
      exact ⟨rfl, k9⟩
  · have c1' : ∀ A c W, At W W.heap.size 1 A a.length (a.map u8v) → Calls Try.prog 10 #[.int .u8 (k.toNat : Int), .slice A a.length c] W (Ans2 W (f, 0)) := fun A c W h => by
      have := frame_any k A c W.heap.size a W h (Nat.le_refl _) (by omega)
      rw [show frameE k = 0 from by unfold frameE; rw [if_neg hk], ← hf] at this
      exact this
    have C1 := Lib.hid c1'
    have hk0 := u8_nonzero hk
    clear c1'
    by_cases hq : q = 0
    · have c2 : ∀ A c W, At W W.heap.size 1 A b.length (b.map u8v) → Calls Try.prog 10 #[.int .u8 (q.toNat : Int), .slice A b.length c] W (Ans2 W (g, 2)) := fun A c W h => by
        have := frame_any q A c W.heap.size b W h (Nat.le_refl _) (by omega)
        rw [show frameE q = 2 from by rw [hq]; rfl, ← hg] at this
        exact this
      have C2 := Lib.hid c2
      have hq0 := u8_zero hq
      clear c2 hq hf hg hk
      go_enter Try.func8, Try.ntmps8
      go_wp2_with fail
      ((with_reducible refine (own_at A0 c0 w.heap.size a w h0 (by omega)).mono ?_); rintro e w1 ⟨A2, c2, rfl, hat1, _, b1⟩)
      go_wp2_with fail
      ((with_reducible refine (C1.out A2 c2 w1 hat1).mono ?_); rintro e w2 ⟨A3, c3, rfl, hat2, _, b2⟩)
      have k2 := bthen b1 b2
      go_wp2_with fail
      ((with_reducible refine (own_at A1 c1 w.heap.size b w2 (h1.below k2 (Nat.le_refl _)) (by omega)).mono ?_); rintro e w3 ⟨A4, c4, rfl, hat3, _, b3⟩)
      have k3 := bthen k2 b3
      go_wp2_with fail
      ((with_reducible refine (C2.out A4 c4 w3 hat3).mono ?_); rintro e w4 ⟨A5, c5, rfl, hat4, _, b4⟩)
      have k4 := bthen k3 b4
      clear hat1 hat2 hat3 hat4
      go_wp2_with fail
      ((with_reducible refine (fknown_any w4).mono ?_); rintro e w9 ⟨rfl, b9⟩)
      have k9 := bthen k4 b9
      go_wp2
      go_ret
      exact ⟨rfl, k9⟩
    · have c2 : ∀ A c W, At W W.heap.size 1 A b.length (b.map u8v) → Calls Try.prog 10 #[.int .u8 (q.toNat : Int), .slice A b.length c] W (Ans2 W (g, 0)) := fun A c W h => by
        have := frame_any q A c W.heap.size b W h (Nat.le_refl _) (by omega)
        rw [show frameE q = 0 from by unfold frameE; rw [if_neg hq], ← hg] at this
        exact this
      have C2 := Lib.hid c2
      have hq0 := u8_nonzero hq
      have hin := frame_inj a b hk hq
      rw [← hf, ← hg] at hin
      obtain ⟨x, hx⟩ : ∃ x, x = (a == b) := ⟨_, rfl⟩
      rw [← hx] at hin
      have cab : ∀ W, Below w.heap.size w W → Calls Try.prog 13 #[.slice A0 a.length c0, .slice A1 b.length c1] W fun e w' => e = .returned (.bool x) ∧ Dr W w' := fun W h => by rw [hx]; exact same_any A0 A1 c0 c1 W.heap.size a b W (h0.arg h) (h1.arg h) (by omega)
      have CAB := Lib.hid cab
      have HI := Lib.hid hin
      clear c2 hf hg hk hq hx cab hin
      by_cases hkq : k = q
      · have S1 : (((k.toNat : Nat) : Int) == (q.toNat : Int)) = true := by rw [hkq]; simp
        have HI2 : Hid ((f == g) = x) := by rw [HI.out, decide_eq_true hkq, Bool.true_and]; rfl
        clear hkq HI
        cases x
        all_goals
          go_enter Try.func8, Try.ntmps8
          go_wp2_with fail
          ((with_reducible refine (own_at A0 c0 w.heap.size a w h0 (by omega)).mono ?_); rintro e w1 ⟨A2, c2, rfl, hat1, _, b1⟩)
          go_wp2_with fail
          ((with_reducible refine (C1.out A2 c2 w1 hat1).mono ?_); rintro e w2 ⟨A3, c3, rfl, hat2, _, b2⟩)
          have k2 := bthen b1 b2
          go_wp2_with fail
          ((with_reducible refine (own_at A1 c1 w.heap.size b w2 (h1.below k2 (Nat.le_refl _)) (by omega)).mono ?_); rintro e w3 ⟨A4, c4, rfl, hat3, _, b3⟩)
          have k3 := bthen k2 b3
          go_wp2_with fail
          ((with_reducible refine (C2.out A4 c4 w3 hat3).mono ?_); rintro e w4 ⟨A5, c5, rfl, hat4, _, b4⟩)
          have k4 := bthen k3 b4
          have cs := same_any A3 A5 c3 c5 w4.heap.size f g w4 ((hat2.then b3).then b4) hat4 (by omega)
          rw [HI2.out] at cs
          have HS := Lib.hid cs
          clear hat1 hat2 hat3 hat4 cs
          go_wp2_with fail
          ((with_reducible refine HS.out.mono ?_); rintro e w5 ⟨rfl, d5⟩)
          have k5 := bthen k4 (d5.below _)
          go_wp2_with fail
          ((with_reducible refine (CAB.out _ k5).mono ?_); rintro e w6 ⟨rfl, d6⟩)
          have k6 := bthen k5 (d6.below _)
          go_wp2_with fail
          ((with_reducible refine (fknown_any w6).mono ?_); rintro e w9 ⟨rfl, b9⟩)
          have k9 := bthen k6 b9
          go_wp2
          go_ret
          exact ⟨rfl, k9⟩
      · have S1 : (((k.toNat : Nat) : Int) == (q.toNat : Int)) = false := u8_ne hkq
        have HI2 : Hid ((f == g) = false) := by rw [HI.out, decide_eq_false hkq, Bool.false_and]; rfl
        clear hkq HI CAB
        go_enter Try.func8, Try.ntmps8
        go_wp2_with fail
        ((with_reducible refine (own_at A0 c0 w.heap.size a w h0 (by omega)).mono ?_); rintro e w1 ⟨A2, c2, rfl, hat1, _, b1⟩)
        go_wp2_with fail
        ((with_reducible refine (C1.out A2 c2 w1 hat1).mono ?_); rintro e w2 ⟨A3, c3, rfl, hat2, _, b2⟩)
        have k2 := bthen b1 b2
        go_wp2_with fail
        ((with_reducible refine (own_at A1 c1 w.heap.size b w2 (h1.below k2 (Nat.le_refl _)) (by omega)).mono ?_); rintro e w3 ⟨A4, c4, rfl, hat3, _, b3⟩)
        have k3 := bthen k2 b3
        go_wp2_with fail
        ((with_reducible refine (C2.out A4 c4 w3 hat3).mono ?_); rintro e w4 ⟨A5, c5, rfl, hat4, _, b4⟩)
        have k4 := bthen k3 b4
        have cs := same_any A3 A5 c3 c5 w4.heap.size f g w4 ((hat2.then b3).then b4) hat4 (by omega)
        rw [HI2.out] at cs
        have HS := Lib.hid cs
        clear hat1 hat2 hat3 hat4 cs
        go_wp2_with fail
        ((with_reducible refine HS.out.mono ?_); rintro e w5 ⟨rfl, d5⟩)
        have k5 := bthen k4 (d5.below _)
        go_wp2_with fail
        ((with_reducible refine (fknown_any w5).mono ?_); rintro e w9 ⟨rfl, b9⟩)
        have k9 := bthen k5 b9
        go_wp2
        go_ret
        exact ⟨rfl, k9⟩

open Go.ChangeShapes Go.WideShapes in
open Go.ChangeMaps (open_string) in
theorem frameUnlike_law : LawWalk Try.prog 8 Try.f8 := by
  intro H enc W base args ds p hval hA hsz
  rw [Try.params8] at hA hval hsz
  obtain ⟨v0, vs0, d0, ds0, p0, q0, hargs, rfl, rfl, h0, r0⟩ := trodAll_cons hA
  obtain ⟨v1, vs1, d1, ds1, p1, q1, rfl, rfl, rfl, h1, r1⟩ := trodAll_cons r0
  obtain ⟨v2, vs2, d2, ds2, p2, q2, rfl, rfl, rfl, h2, r2⟩ := trodAll_cons r1
  obtain ⟨v3, vs3, d3, ds3, p3, q3, rfl, rfl, rfl, h3, r3⟩ := trodAll_cons r2
  obtain ⟨rfl, rfl, rfl⟩ := trodAll_nil r3
  obtain rfl : args = #[v0, v1, v2, v3] := by cases args; simp_all
  obtain ⟨A0, c0, l0, rfl, hat0, hlc0, hd0⟩ := open_bytes Try.underlying22 Try.underlying5 (by kernel_rfl) (hval 0 _ v0 rfl rfl) h0
  obtain ⟨A1, c1, l1, rfl, hat1, hlc1, hd1⟩ := open_bytes Try.underlying22 Try.underlying5 (by kernel_rfl) (hval 1 _ v1 rfl rfl) h1
  obtain ⟨n2, rfl, rfl, rfl, wn2⟩ := open_int Try.underlying5 (hval 2 _ v2 rfl rfl) h2
  obtain ⟨s2, rfl, hs2⟩ := u8_nat wn2
  obtain ⟨n3, rfl, rfl, rfl, wn3⟩ := open_int Try.underlying5 (hval 3 _ v3 rfl rfl) h3
  obtain ⟨s3, rfl, hs3⟩ := u8_nat wn3
  exact frameUnlike_walk A0 c0 l0 A1 c1 l1 s2 s3 W hat0 hlc0 (bytes_reach hsz (j := 0) rfl rfl hlc0 hd0).2 hat1 hlc1 (bytes_reach hsz (j := 1) rfl rfl hlc1 hd1).2 hs2 hs3

set_option maxRecDepth 100000 in
theorem frameUnlike_lifted (os : Os) (started : os.Started) (H : Type) (enc : TypeId × Value → H) :
    ReturnsInHanded {} Try.checked os 8 .any (Rows.frameUnlikeSpec.pre6 enc Try.prog Try.f8 Rows.frameUnlikeRow.domain false) (Rows.frameUnlikeSpec.post enc Try.prog Try.f8 false true false false) :=
  law_lifted (s := Rows.frameUnlikeSpec) started (by kernel_rfl) Try.func8 Try.underlying4 rfl rfl
    (by rw [Try.params8]; simp only [List.mem_cons, List.not_mem_nil, or_false, forall_eq_or_imp, forall_eq]; exact ⟨⟨by kernel_rfl, of_decide_eq_true (by kernel_rfl)⟩, ⟨by kernel_rfl, of_decide_eq_true (by kernel_rfl)⟩, ⟨by kernel_rfl, of_decide_eq_true (by kernel_rfl)⟩, ⟨by kernel_rfl, of_decide_eq_true (by kernel_rfl)⟩⟩)
    (fun H ds hl => by match ds, hl with | [_, _, _, _], _ => rfl)
    (ChangeSpec.witness6 (enc := enc) (C := Try.checked) false ⟨#[], #[.slice none 0 0, .slice none 0 0, .int .u8 0, .int .u8 0], []⟩ 8 (by kernel_rfl) (by kernel_rfl) (by kernel_rfl) (by kernel_rfl)) frameUnlike_law

theorem frameUnlike_over : Rows.frameUnlikeRow.holds Try.pinned (OpenSpec.ofChange Rows.frameUnlikeSpec) :=
  OpenClaim.holds_of_wide 8 Try.f8 rfl rfl rfl rfl rfl rfl rfl ⟨rfl, rfl, rfl, rfl, rfl⟩ rfl rfl rfl rfl rfl (by kernel_rfl) Try.func8 (by kernel_rfl)
    (of_decide_eq_true (by kernel_rfl)) (by unfold Func.isWrapper; first | (rw [if_pos (by decide +kernel)]; kernel_rfl) | (rw [if_neg (by decide +kernel)]; exact ⟨rfl, rfl⟩))
    (fun os started H enc _ => frameUnlike_lifted os started H enc)

theorem frameUnlike_proved : Rows.FrameUnlikeSaid := frameUnlike_over

end Go.Proofs.Ythhgcjdfmnceaaa
