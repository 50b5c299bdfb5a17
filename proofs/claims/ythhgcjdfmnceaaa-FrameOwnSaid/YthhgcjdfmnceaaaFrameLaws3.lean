/- FrameSpoilt answers true at every input, and every argument reads afterwards as it did: 'frameSpoilt_proved'. Conditions: none but the statement's own. -/
import Derived.Test.YthhgcjdfmnceaaaFrameLaws2
import Derived.Test.YthhgcjdfmnceaaaCrcBurst0
namespace Go.Proofs.Ythhgcjdfmnceaaa
open Go.RowKit Crc

theorem sealed_set (l : List UInt8) (p : Nat) (m : UInt8) (hp : p < (seal_ l).length) (hm : m ≠ 0) : sealed ((seal_ l).set p ((seal_ l).getD p 0 ^^^ m)) = false := by
  have hl := seal_len l
  have h4 : 4 ≤ ((seal_ l).set p ((seal_ l).getD p 0 ^^^ m)).length := by rw [List.length_set]; omega
  have h1 := (sealed_iff (seal_ l) (by omega)).1 (sealed_seal l)
  rcases hs : sealed ((seal_ l).set p ((seal_ l).getD p 0 ^^^ m)) with _ | _
  · rfl
  · exfalso
    have h2 := (sealed_iff _ h4).1 hs
    rw [reg_set _ _ _ _ hp, h1] at h2
    have h3 : halfN 32 4294967295 ^^^ halfN (8 * ((seal_ l).length - p)) m.toNat = halfN 32 4294967295 ^^^ 0 := by rw [h2, Nat.xor_zero]
    have h5 := halfN_inj0 _ (by have := u8_lt m; omega) (xor_left_inj h3)
    exact hm (UInt8.toNat_inj.1 (by rw [h5]; rfl))
theorem open_spoilt {k : UInt8} (l : List UInt8) (p : Nat) (m : UInt8) (hk : k ≠ 0) (hp : p < (frameL k l).length) (hm : m ≠ 0) : openK ((frameL k l).set p ((frameL k l).getD p 0 ^^^ m)) = (0, [], 11) := by
  have e : frameL k l = seal_ (k :: l) := by unfold frameL; rw [if_neg hk]
  rw [e] at hp ⊢
  exact open_none (opened_not (sealed_set _ p m hp hm))
theorem spoil_far {l : List UInt8} {n : Int} (m : UInt8) (h : n < 0 ∨ (l.length : Int) ≤ n) : spoilL l n m = ([], 17) := by unfold spoilL; rw [if_pos h]
theorem spoil_no {l : List UInt8} {p : Nat} (h : p < l.length) : spoilL l p 0 = ([], 2) := by unfold spoilL; rw [if_neg (by omega), if_pos rfl]
theorem spoil_at {l : List UInt8} {p : Nat} {m : UInt8} (h : p < l.length) (hm : m ≠ 0) : spoilL l p m = (l.set p (l.getD p 0 ^^^ m), 0) := by unfold spoilL; rw [if_neg (by omega), if_neg hm]; rfl
theorem spoil_again {l : List UInt8} {p : Nat} {m : UInt8} (h : p < l.length) (hm : m ≠ 0) : spoilL (l.set p (l.getD p 0 ^^^ m)) p m = (l, 0) := by
  rw [spoil_at (by rw [List.length_set]; exact h) hm]
  have e : (l.set p (l.getD p 0 ^^^ m)).getD p 0 = l.getD p 0 ^^^ m := by simp [List.getD, h]
  rw [e, UInt8.xor_assoc, UInt8.xor_self, UInt8.xor_zero, List.set_set]
  have : l.getD p 0 = l[p] := by simp [List.getD, h]
  rw [this, List.set_getElem_self]

theorem spoil_any (A : Option Addr) (c B : Nat) (l : List UInt8) (n : Int) (m : UInt8) (w : World) (h1 : At w B 1 A l.length (l.map u8v)) (hB : B ≤ w.heap.size) (hm : l.length ≤ 140737488355328) (hn1 : -9223372036854775808 ≤ n) (hn2 : n ≤ 9223372036854775807) :
    Calls Try.prog 19 #[.slice A l.length c, .int .i64 n, u8v m] w (Ans2 w (spoilL l n m)) := (spoil_own A c B l n m w h1 hB hm hn1 hn2).mono fun _ _ h => h.ans

set_option maxHeartbeats 2000000 in
theorem frameSpoilt_walk (s : Nat) (A : Option Addr) (c : Nat) (l : List UInt8) (n : Int) (t : Nat) (w : World) (hs : s < 256) (h1 : At w w.heap.size 1 A l.length (l.map u8v)) (hlc : l.length ≤ c) (hm : c ≤ 140737488351232) (ha : -9223372036854775808 ≤ n) (hb : n ≤ 9223372036854775807) (ht : t < 256) :
    Calls Try.prog 6 #[.int .u8 (s : Int), .slice A l.length c, .int .i64 n, .int .u8 (t : Int)] w fun e w' => e = .returned (.bool true) ∧ Below w.heap.size w w' := by
  obtain ⟨k, rfl⟩ := u8_name hs
  obtain ⟨m, rfl⟩ := u8_name ht
  by_cases hk : k = 0
  · have hk0 := u8_zero hk
    have c1 : ∀ A c W, At W W.heap.size 1 A l.length (l.map u8v) → Calls Try.prog 10 #[.int .u8 (k.toNat : Int), .slice A l.length c] W fun e w' => ∃ A c, e = .returned (.tuple #[.slice A 0 c, .int .i64 2]) ∧ Below W.heap.size W w' := fun A c W h => (frame_any k A c W.heap.size l W h (Nat.le_refl _) (by omega)).mono fun e w' ⟨A, c, he, _, _, hb⟩ => ⟨A, c, by rw [he, hk]; rfl, hb⟩
    have C1 := Lib.hid c1
    clear c1 hk
    go_enter Try.func6, Try.ntmps6
    go_wp2_with fail
    ((with_reducible refine (own_at A c w.heap.size l w h1 (by omega)).mono ?_); rintro e w1 ⟨A1, c1, rfl, hat1, _, b1⟩)
    go_wp2_with fail
    ((with_reducible refine (C1.out A1 c1 w1 hat1).mono ?_); rintro e w2 ⟨A2, c2, rfl, b2⟩)
    have k2 := bthen b1 b2
    go_wp2_with fail
    ((with_reducible refine (fknown_any w2).mono ?_); rintro e w9 ⟨rfl, b9⟩)
    have k9 := bthen k2 b9
    go_wp2
    go_ret
    exact ⟨rfl, k9⟩
  · have hk0 := u8_nonzero hk
    have hfl0 := frameL_pos l hk
    have hsp := fun p => open_spoilt l p m hk
    have hop := open_frame l hk
    obtain ⟨f, hf⟩ : ∃ f, f = frameL k l := ⟨_, rfl⟩
    rw [← hf] at hfl0 hsp hop
    have e0 : frameE k = 0 := by unfold frameE; rw [if_neg hk]
    have c1 : ∀ A c W, At W W.heap.size 1 A l.length (l.map u8v) → Calls Try.prog 10 #[.int .u8 (k.toNat : Int), .slice A l.length c] W (Ans2 W (f, 0)) := fun A c W h => by rw [hf, ← e0]; exact frame_any k A c W.heap.size l W h (Nat.le_refl _) (by omega)
    have C1 := Lib.hid c1
    have hfl : f.length ≤ l.length + 5 := by omega
    have hsa : ∀ A c W, At W W.heap.size 1 A f.length (f.map u8v) → Calls Try.prog 19 #[.slice A f.length c, .int .i64 n, .int .u8 (m.toNat : Int)] W (Ans2 W (spoilL f n m)) := fun A c W h => spoil_any A c W.heap.size f n m W h (Nat.le_refl _) (by omega) ha hb
    clear c1 e0 hf hfl0
    by_cases hn : n < 0 ∨ (f.length : Int) ≤ n
    · rw [spoil_far m hn] at hsa
      have hsb : ∀ A c W, At W W.heap.size 1 A f.length (f.map u8v) → Calls Try.prog 19 #[.slice A f.length c, .int .i64 n, .int .u8 (m.toNat : Int)] W fun e w' => ∃ A c, e = .returned (.tuple #[.slice A 0 c, .int .i64 17]) ∧ Below W.heap.size W w' := fun A c W h => (hsa A c W h).mono fun e w' ⟨A, c, he, _, _, hb⟩ => ⟨A, c, he, hb⟩
      have C2 := Lib.hid hsb
      clear hsa hsb hsp hop hk
      rcases Int.lt_or_le n 0 with hn0 | hn0
      · clear hn
        go_enter Try.func6, Try.ntmps6
        go_wp2_with fail
        ((with_reducible refine (own_at A c w.heap.size l w h1 (by omega)).mono ?_); rintro e w1 ⟨A1, c1, rfl, hat1, _, b1⟩)
        go_wp2_with fail
        ((with_reducible refine (C1.out A1 c1 w1 hat1).mono ?_); rintro e w2 ⟨A2, c2, rfl, hat2, hc2, b2⟩)
        have k2 := bthen b1 b2
        go_wp2_with fail
        ((with_reducible refine (C2.out A2 c2 w2 hat2).mono ?_); rintro e w3 ⟨A3, c3, rfl, b3⟩)
        have k3 := bthen k2 b3
        clear hat1 hat2
        go_wp2_with fail
        ((with_reducible refine (fknown_any w3).mono ?_); rintro e w9 ⟨rfl, b9⟩)
        have k9 := bthen k3 b9
        go_wp2
        go_ret
        exact ⟨rfl, k9⟩
      · have hn1 : (f.length : Int) ≤ n := by omega
        clear hn
        go_enter Try.func6, Try.ntmps6
        go_wp2_with fail
        ((with_reducible refine (own_at A c w.heap.size l w h1 (by omega)).mono ?_); rintro e w1 ⟨A1, c1, rfl, hat1, _, b1⟩)
        go_wp2_with fail
        ((with_reducible refine (C1.out A1 c1 w1 hat1).mono ?_); rintro e w2 ⟨A2, c2, rfl, hat2, hc2, b2⟩)
        have k2 := bthen b1 b2
        go_wp2_with fail
        ((with_reducible refine (C2.out A2 c2 w2 hat2).mono ?_); rintro e w3 ⟨A3, c3, rfl, b3⟩)
        have k3 := bthen k2 b3
        clear hat1 hat2
        go_wp2_with fail
        ((with_reducible refine (fknown_any w3).mono ?_); rintro e w9 ⟨rfl, b9⟩)
        have k9 := bthen k3 b9
        go_wp2
        go_ret
        exact ⟨rfl, k9⟩
    · obtain ⟨p, rfl⟩ := Int.eq_ofNat_of_zero_le (show 0 ≤ n by omega)
      have hp : p < f.length := by omega
      have hp2 : ¬ ((f.length : Int) ≤ (p : Int)) := by omega
      have hp0 : (0 : Int) ≤ (p : Int) := by omega
      clear hn
      by_cases hm0 : m = 0
      · rw [hm0] at hsa
        rw [spoil_no hp] at hsa
        have hz : (((0 : UInt8).toNat : Nat) : Int) = (m.toNat : Int) := by rw [hm0]
        simp only [hz] at hsa
        have hsb : ∀ A c W, At W W.heap.size 1 A f.length (f.map u8v) → Calls Try.prog 19 #[.slice A f.length c, .int .i64 (p : Int), .int .u8 (m.toNat : Int)] W fun e w' => ∃ A c, e = .returned (.tuple #[.slice A 0 c, .int .i64 2]) ∧ Below W.heap.size W w' := fun A c W h => (hsa A c W h).mono fun e w' ⟨A, c, he, _, _, hb⟩ => ⟨A, c, he, hb⟩
        have C2 := Lib.hid hsb
        have hmz := u8_zero hm0
        clear hsa hsb hsp hop hk hz hm0
        go_enter Try.func6, Try.ntmps6
        go_wp2_with fail
        ((with_reducible refine (own_at A c w.heap.size l w h1 (by omega)).mono ?_); rintro e w1 ⟨A1, c1, rfl, hat1, _, b1⟩)
        go_wp2_with fail
        ((with_reducible refine (C1.out A1 c1 w1 hat1).mono ?_); rintro e w2 ⟨A2, c2, rfl, hat2, hc2, b2⟩)
        have k2 := bthen b1 b2
        go_wp2_with fail
        ((with_reducible refine (C2.out A2 c2 w2 hat2).mono ?_); rintro e w3 ⟨A3, c3, rfl, b3⟩)
        have k3 := bthen k2 b3
        clear hat1 hat2
        go_wp2_with fail
        ((with_reducible refine (fknown_any w3).mono ?_); rintro e w9 ⟨rfl, b9⟩)
        have k9 := bthen k3 b9
        go_wp2
        go_ret
        exact ⟨rfl, k9⟩
      · have hsp := hsp p hp hm0
        have hag := spoil_again hp hm0
        rw [spoil_at hp hm0] at hsa
        obtain ⟨g, hg⟩ : ∃ g, g = f.set p (f.getD p 0 ^^^ m) := ⟨_, rfl⟩
        have hgl : g.length = f.length := by rw [hg, List.length_set]
        rw [← hg] at hsp hag hsa
        have hgl2 : g.length ≤ l.length + 5 := by omega
        have c3 : ∀ A c W, At W W.heap.size 1 A g.length (g.map u8v) → g.length ≤ c → Calls Try.prog 15 #[.slice A g.length c] W fun e w' => ∃ A c, e = .returned (.tuple #[.int .u8 0, .slice A 0 c, .int .i64 11]) ∧ Below W.heap.size W w' := fun A c W h hc => (fopen_any A c W.heap.size g W h (Nat.le_refl _) hc (by omega)).mono fun e w' h => open3_mk hsp h
        have c4 : ∀ A c W, At W W.heap.size 1 A g.length (g.map u8v) → Calls Try.prog 19 #[.slice A g.length c, .int .i64 (p : Int), .int .u8 (m.toNat : Int)] W (Ans2 W (f, 0)) := fun A c W h => by rw [← hag]; exact spoil_any A c W.heap.size g p m W h (Nat.le_refl _) (by omega) ha hb
        have c5 : ∀ A c W, At W W.heap.size 1 A f.length (f.map u8v) → f.length ≤ c → Calls Try.prog 15 #[.slice A f.length c] W (Open3 W (k, l, 0)) := fun A c W h hc => by rw [← hop]; exact fopen_any A c W.heap.size f W h (Nat.le_refl _) hc (by omega)
        have C2 := Lib.hid hsa
        have C3 := Lib.hid c3
        have C4 := Lib.hid c4
        have C5 := Lib.hid c5
        have hmz := u8_nonzero hm0
        have S1 : (l == l) = true := by simp
        have S2 : (((k.toNat : Nat) : Int) == (k.toNat : Int)) = true := by simp
        clear hsa c3 c4 c5 hsp hop hk hm0 hag hg hgl
        go_enter Try.func6, Try.ntmps6
        go_wp2_with fail
        ((with_reducible refine (own_at A c w.heap.size l w h1 (by omega)).mono ?_); rintro e w1 ⟨A1, c1, rfl, hat1, _, b1⟩)
        go_wp2_with fail
        ((with_reducible refine (C1.out A1 c1 w1 hat1).mono ?_); rintro e w2 ⟨A2, c2, rfl, hat2, hc2, b2⟩)
        have k2 := bthen b1 b2
        go_wp2_with fail
        ((with_reducible refine (C2.out A2 c2 w2 hat2).mono ?_); rintro e w3 ⟨A3, c3, rfl, hat3, hc3, b3⟩)
        have k3 := bthen k2 b3
        clear hat1 hat2
        go_wp2_with fail
        ((with_reducible refine (C3.out A3 c3 w3 hat3 hc3).mono ?_); rintro e w4 ⟨A4, c4, rfl, b4⟩)
        have k4 := bthen k3 b4
        go_wp2_with fail
        ((with_reducible refine (C4.out A3 c3 w4 (hat3.then b4)).mono ?_); rintro e w5 ⟨A5, c5, rfl, hat5, hc5, b5⟩)
        have k5 := bthen k4 b5
        clear hat3
        go_wp2_with fail
        ((with_reducible refine (C5.out A5 c5 w5 hat5 hc5).mono ?_); rintro e w6 ⟨A6, c6, rfl, hat6, hc6, b6⟩)
        have k6 := bthen k5 b6
        clear hat5
        have cs := same_any A6 A c6 c w6.heap.size l l w6 hat6 (h1.arg k6) (by omega)
        rw [S1] at cs
        have HS := Lib.hid cs
        clear cs hat6
        go_wp2_with fail
        ((with_reducible refine HS.out.mono ?_); rintro e w7 ⟨rfl, d7⟩)
        have k7 := bthen k6 (d7.below _)
        go_wp2_with fail
        ((with_reducible refine (fknown_any w7).mono ?_); rintro e w9 ⟨rfl, b9⟩)
        have k9 := bthen k7 b9
        go_wp2
        go_ret
        exact ⟨rfl, k9⟩

open Go.ChangeShapes Go.WideShapes in
open Go.ChangeMaps (open_string) in
theorem frameSpoilt_law : LawWalk Try.prog 6 Try.f6 := by
  intro H enc W base args ds p hval hA hsz
  rw [Try.params6] at hA hval hsz
  obtain ⟨v0, vs0, d0, ds0, p0, q0, hargs, rfl, rfl, h0, r0⟩ := trodAll_cons hA
  obtain ⟨v1, vs1, d1, ds1, p1, q1, rfl, rfl, rfl, h1, r1⟩ := trodAll_cons r0
  obtain ⟨v2, vs2, d2, ds2, p2, q2, rfl, rfl, rfl, h2, r2⟩ := trodAll_cons r1
  obtain ⟨v3, vs3, d3, ds3, p3, q3, rfl, rfl, rfl, h3, r3⟩ := trodAll_cons r2
  obtain ⟨rfl, rfl, rfl⟩ := trodAll_nil r3
  obtain rfl : args = #[v0, v1, v2, v3] := by cases args; simp_all
  obtain ⟨n0, rfl, rfl, rfl, wn0⟩ := open_int Try.underlying5 (hval 0 _ v0 rfl rfl) h0
  obtain ⟨s0, rfl, hs0⟩ := u8_nat wn0
  obtain ⟨A1, c1, l1, rfl, hat1, hlc1, hd1⟩ := open_bytes Try.underlying22 Try.underlying5 (by kernel_rfl) (hval 1 _ v1 rfl rfl) h1
  obtain ⟨n2, rfl, rfl, rfl, wn2⟩ := open_int Try.underlying3 (hval 2 _ v2 rfl rfl) h2
  obtain ⟨ha2, hb2⟩ := i64_in wn2
  obtain ⟨n3, rfl, rfl, rfl, wn3⟩ := open_int Try.underlying5 (hval 3 _ v3 rfl rfl) h3
  obtain ⟨s3, rfl, hs3⟩ := u8_nat wn3
  exact frameSpoilt_walk s0 A1 c1 l1 n2 s3 W hs0 hat1 hlc1 (bytes_reach hsz (j := 1) rfl rfl hlc1 hd1).2 ha2 hb2 hs3

set_option maxRecDepth 100000 in
theorem frameSpoilt_lifted (os : Os) (started : os.Started) (H : Type) (enc : TypeId × Value → H) :
    ReturnsInHanded {} Try.checked os 6 .any (Rows.frameSpoiltSpec.pre6 enc Try.prog Try.f6 Rows.frameSpoiltRow.domain false) (Rows.frameSpoiltSpec.post enc Try.prog Try.f6 false true false false) :=
  law_lifted (s := Rows.frameSpoiltSpec) started (by kernel_rfl) Try.func6 Try.underlying4 rfl rfl
    (by rw [Try.params6]; simp only [List.mem_cons, List.not_mem_nil, or_false, forall_eq_or_imp, forall_eq]; exact ⟨⟨by kernel_rfl, of_decide_eq_true (by kernel_rfl)⟩, ⟨by kernel_rfl, of_decide_eq_true (by kernel_rfl)⟩, ⟨by kernel_rfl, of_decide_eq_true (by kernel_rfl)⟩, ⟨by kernel_rfl, of_decide_eq_true (by kernel_rfl)⟩⟩)
    (fun H ds hl => by match ds, hl with | [_, _, _, _], _ => rfl)
    (ChangeSpec.witness6 (enc := enc) (C := Try.checked) false ⟨#[], #[.int .u8 0, .slice none 0 0, .int .i64 0, .int .u8 0], []⟩ 8 (by kernel_rfl) (by kernel_rfl) (by kernel_rfl) (by kernel_rfl)) frameSpoilt_law

theorem frameSpoilt_over : Rows.frameSpoiltRow.holds Try.pinned (OpenSpec.ofChange Rows.frameSpoiltSpec) :=
  OpenClaim.holds_of_wide 6 Try.f6 rfl rfl rfl rfl rfl rfl rfl ⟨rfl, rfl, rfl, rfl, rfl⟩ rfl rfl rfl rfl rfl (by kernel_rfl) Try.func6 (by kernel_rfl)
    (of_decide_eq_true (by kernel_rfl)) (by unfold Func.isWrapper; first | (rw [if_pos (by decide +kernel)]; kernel_rfl) | (rw [if_neg (by decide +kernel)]; exact ⟨rfl, rfl⟩))
    (fun os started H enc _ => frameSpoilt_lifted os started H enc)

theorem frameSpoilt_proved : Rows.FrameSpoiltSaid := frameSpoilt_over

end Go.Proofs.Ythhgcjdfmnceaaa
