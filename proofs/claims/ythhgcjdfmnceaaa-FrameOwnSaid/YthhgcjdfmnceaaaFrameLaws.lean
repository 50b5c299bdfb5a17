/- FrameForms answers true at every input, and every argument reads afterwards as it did: 'frameForms_proved'. Conditions: none but the statement's own. FrameOpens answers true at every input, and every argument reads afterwards as it did: 'frameOpens_proved'. Conditions: none but the statement's own. -/
import Derived.Test.YthhgcjdfmnceaaaFrameKnown
import Derived.Test.YthhgcjdfmnceaaaLaw
namespace Go.Proofs.Ythhgcjdfmnceaaa
open Go.RowKit Crc

theorem u8_name {s : Nat} (h : s < 256) : ∃ k : UInt8, s = k.toNat := ⟨UInt8.ofNat s, by rw [UInt8.toNat_ofNat']; omega⟩
theorem u8_ne {a b : UInt8} (h : a ≠ b) : (((a.toNat : Nat) : Int) == (b.toNat : Int)) = false := by
  rw [beq_eq_false_iff_ne]
  intro e
  exact h (UInt8.toNat_inj.1 (by omega))
theorem u8_nne {a b : UInt8} (h : a ≠ b) : (((a.toNat : Nat) : Int) != (b.toNat : Int)) = true := by
  rw [bne_iff_ne]
  intro e
  exact h (UInt8.toNat_inj.1 (by omega))
theorem openK_err (l : List UInt8) : (openK l).2.2 = 0 ∨ (openK l).2.2 = 2 ∨ (openK l).2.2 = 11 := by
  cases ho : opened l with
  | nil => rw [open_none ho]; simp
  | cons k b =>
    by_cases hk : k = 0
    · subst hk; rw [open_zero ho]; simp
    · rw [open_some ho hk]; simp

set_option maxHeartbeats 1000000 in
theorem frameForms_walk (s : Nat) (A : Option Addr) (c : Nat) (l : List UInt8) (w : World) (hs : s < 256) (h1 : At w w.heap.size 1 A l.length (l.map u8v)) (_hlc : l.length ≤ c) (hm : c ≤ 140737488351232) :
    Calls Try.prog 3 #[.int .u8 (s : Int), .slice A l.length c] w fun e w' => e = .returned (.bool true) ∧ Below w.heap.size w w' := by
  obtain ⟨k, rfl⟩ := u8_name hs
  have hfl := frameL_len k l
  obtain ⟨f, hf⟩ : ∃ f, f = frameL k l := ⟨_, rfl⟩
  obtain ⟨n, hn⟩ : ∃ n, n = frameE k := ⟨_, rfl⟩
  rw [← hf] at hfl
  have c1 : ∀ A c W, At W W.heap.size 1 A l.length (l.map u8v) → Calls Try.prog 10 #[.int .u8 (k.toNat : Int), .slice A l.length c] W (Ans2 W (f, n)) := fun A c W h => by rw [hf, hn]; exact frame_any k A c W.heap.size l W h (Nat.le_refl _) (by omega)
  have c2 : ∀ W, Below w.heap.size w W → Calls Try.prog 12 #[.int .u8 (k.toNat : Int), .slice A l.length c] W (Ans2 W (f, n)) := fun W h => by rw [hf, hn]; exact refFrame_any k A c w.heap.size l W (h1.below h (Nat.le_refl _)) h.size (by omega)
  have HC := Lib.hid c1
  have HD := Lib.hid c2
  have S1 : (f == f) = true := by simp
  have S2 : ((n : Int) == (n : Int)) = true := by simp
  clear c1 c2 hf hn
  go_enter Try.func3, Try.ntmps3
  go_wp2_with fail
  ((with_reducible refine (own_at A c w.heap.size l w h1 (by omega)).mono ?_); rintro e w1 ⟨A1, c1, rfl, hat1, _, b1⟩)
  go_wp2_with fail
  ((with_reducible refine (HC.out A1 c1 w1 hat1).mono ?_); rintro e w2 ⟨A2, c2, rfl, hat2, _, b2⟩)
  have k2 := bthen b1 b2
  go_wp2_with fail
  ((with_reducible refine (HD.out w2 k2).mono ?_); rintro e w3 ⟨A3, c3, rfl, hat3, _, b3⟩)
  have k3 := bthen k2 b3
  have cs := same_any A2 A3 c2 c3 w3.heap.size f f w3 (hat2.then b3) hat3 (by omega)
  rw [S1] at cs
  have HS := Lib.hid cs
  clear cs hat1 hat2 hat3
  go_wp2_with fail
  ((with_reducible refine HS.out.mono ?_); rintro e w4 ⟨rfl, d4⟩)
  have k4 := bthen k3 (d4.below _)
  go_wp2_with fail
  ((with_reducible refine (fknown_any w4).mono ?_); rintro e w5 ⟨rfl, b5⟩)
  have k5 := bthen k4 b5
  go_wp2
  go_ret
  exact ⟨rfl, k5⟩

open Go.ChangeShapes Go.WideShapes in
open Go.ChangeMaps (open_string) in
theorem frameForms_law : LawWalk Try.prog 3 Try.f3 := by
  intro H enc W base args ds p hval hA hsz
  rw [Try.params3] at hA hval hsz
  obtain ⟨v0, vs0, d0, ds0, p0, q0, hargs, rfl, rfl, h0, r0⟩ := trodAll_cons hA
  obtain ⟨v1, vs1, d1, ds1, p1, q1, rfl, rfl, rfl, h1, r1⟩ := trodAll_cons r0
  obtain ⟨rfl, rfl, rfl⟩ := trodAll_nil r1
  obtain rfl : args = #[v0, v1] := by cases args; simp_all
  obtain ⟨n0, rfl, rfl, rfl, wn0⟩ := open_int Try.underlying5 (hval 0 _ v0 rfl rfl) h0
  obtain ⟨s0, rfl, hs0⟩ := u8_nat wn0
  obtain ⟨A1, c1, l1, rfl, hat1, hlc1, hd1⟩ := open_bytes Try.underlying22 Try.underlying5 (by kernel_rfl) (hval 1 _ v1 rfl rfl) h1
  exact frameForms_walk s0 A1 c1 l1 W hs0 hat1 hlc1 (bytes_reach hsz (j := 1) rfl rfl hlc1 hd1).2

set_option maxRecDepth 100000 in
theorem frameForms_lifted (os : Os) (started : os.Started) (H : Type) (enc : TypeId × Value → H) :
    ReturnsInHanded {} Try.checked os 3 .any (Rows.frameFormsSpec.pre6 enc Try.prog Try.f3 Rows.frameFormsRow.domain false) (Rows.frameFormsSpec.post enc Try.prog Try.f3 false true false false) :=
  law_lifted (s := Rows.frameFormsSpec) started (by kernel_rfl) Try.func3 Try.underlying4 rfl rfl
    (by rw [Try.params3]; simp only [List.mem_cons, List.not_mem_nil, or_false, forall_eq_or_imp, forall_eq]; exact ⟨⟨by kernel_rfl, of_decide_eq_true (by kernel_rfl)⟩, ⟨by kernel_rfl, of_decide_eq_true (by kernel_rfl)⟩⟩)
    (fun H ds hl => by match ds, hl with | [_, _], _ => rfl)
    (ChangeSpec.witness6 (enc := enc) (C := Try.checked) false ⟨#[], #[.int .u8 0, .slice none 0 0], []⟩ 8 (by kernel_rfl) (by kernel_rfl) (by kernel_rfl) (by kernel_rfl)) frameForms_law

theorem frameForms_over : Rows.frameFormsRow.holds Try.pinned (OpenSpec.ofChange Rows.frameFormsSpec) :=
  OpenClaim.holds_of_wide 3 Try.f3 rfl rfl rfl rfl rfl rfl rfl ⟨rfl, rfl, rfl, rfl, rfl⟩ rfl rfl rfl rfl rfl (by kernel_rfl) Try.func3 (by kernel_rfl)
    (of_decide_eq_true (by kernel_rfl)) (by unfold Func.isWrapper; first | (rw [if_pos (by decide +kernel)]; kernel_rfl) | (rw [if_neg (by decide +kernel)]; exact ⟨rfl, rfl⟩))
    (fun os started H enc _ => frameForms_lifted os started H enc)

theorem frameForms_proved : Rows.FrameFormsSaid := frameForms_over


set_option maxHeartbeats 1000000 in
theorem frameOpens_walk (A : Option Addr) (c : Nat) (l : List UInt8) (s : Nat) (w : World) (h1 : At w w.heap.size 1 A l.length (l.map u8v)) (hlc : l.length ≤ c) (hm : c ≤ 140737488351232) (hs : s < 256) :
    Calls Try.prog 4 #[.slice A l.length c, .int .u8 (s : Int)] w fun e w' => e = .returned (.bool true) ∧ Below w.heap.size w w' := by
  obtain ⟨q, rfl⟩ := u8_name hs
  have hol := openK_le l
  have hbl := bodyK_le q l
  obtain ⟨⟨k, b, n⟩, hp⟩ : ∃ p, p = openK l := ⟨_, rfl⟩
  obtain ⟨⟨y, j⟩, hq⟩ : ∃ p, p = bodyK q l := ⟨_, rfl⟩
  rw [← hp] at hol
  rw [← hq] at hbl
  simp only at hol hbl
  have c1 : ∀ A c W, At W W.heap.size 1 A l.length (l.map u8v) → l.length ≤ c → Calls Try.prog 15 #[.slice A l.length c] W (Open3 W (k, b, n)) := fun A c W h hc => by rw [hp]; exact fopen_any A c W.heap.size l W h (Nat.le_refl _) hc (by omega)
  have c2 : ∀ W, Below w.heap.size w W → Calls Try.prog 16 #[.slice A l.length c] W (RefOpen3 W w.heap.size (k, b, n)) := fun W h => by rw [hp]; exact refFopen_any A c w.heap.size l W (h1.below h (Nat.le_refl _)) h.size hlc (by omega)
  have c3 : ∀ A c W, At W W.heap.size 1 A l.length (l.map u8v) → l.length ≤ c → Calls Try.prog 17 #[.int .u8 (q.toNat : Int), .slice A l.length c] W (Ans2 W (y, j)) := fun A c W h hc => by rw [hq]; exact fbody_any q A c W.heap.size l W h (Nat.le_refl _) hc (by omega)
  have c4 : ∀ W, Below w.heap.size w W → Calls Try.prog 18 #[.int .u8 (q.toNat : Int), .slice A l.length c] W (RefAns2 W w.heap.size (y, j)) := fun W h => by rw [hq]; exact refFbody_any q A c w.heap.size l W (h1.below h (Nat.le_refl _)) h.size hlc (by omega)
  have C1 := Lib.hid c1
  have C2 := Lib.hid c2
  have C3 := Lib.hid c3
  have C4 := Lib.hid c4
  have S1 : (b == b) = true := by simp
  have S2 : ((n : Int) != (n : Int)) = false := by simp
  have S3 : (((k.toNat : Nat) : Int) != (k.toNat : Int)) = false := by simp
  have S4 : (y == y) = true := by simp
  have S5 : ((j : Int) == (j : Int)) = true := by simp
  clear c1 c2 c3 c4 hp hq
  go_enter Try.func4, Try.ntmps4
  go_wp2_with fail
  ((with_reducible refine (own_at A c w.heap.size l w h1 (by omega)).mono ?_); rintro e w1 ⟨A1, c1, rfl, hat1, hc1, b1⟩)
  go_wp2_with fail
  ((with_reducible refine (C1.out A1 c1 w1 hat1 hc1).mono ?_); rintro e w2 ⟨A2, c2, rfl, hat2, _, b2⟩)
  have k2 := bthen b1 b2
  go_wp2_with fail
  ((with_reducible refine (C2.out w2 k2).mono ?_); rintro e w3 ⟨A3, c3, rfl, hat3, b3⟩)
  have k3 := bthen k2 b3
  have cs := same_any A2 A3 c2 c3 w3.heap.size b b w3 (hat2.then b3) (hat3.more k3.size) (by omega)
  rw [S1] at cs
  have HS := Lib.hid cs
  clear cs hat1 hat2 hat3
  go_wp2_with fail
  ((with_reducible refine HS.out.mono ?_); rintro e w4 ⟨rfl, d4⟩)
  have k4 := bthen k3 (d4.below _)
  clear HS
  go_wp2_with fail
  ((with_reducible refine (own_at A c w.heap.size l w4 (h1.below k4 (Nat.le_refl _)) (by omega)).mono ?_); rintro e w5 ⟨A5, c5, rfl, hat5, hc5, b5⟩)
  have k5 := bthen k4 b5
  go_wp2_with fail
  ((with_reducible refine (C3.out A5 c5 w5 hat5 hc5).mono ?_); rintro e w6 ⟨A6, c6, rfl, hat6, _, b6⟩)
  have k6 := bthen k5 b6
  go_wp2_with fail
  ((with_reducible refine (C4.out w6 k6).mono ?_); rintro e w7 ⟨A7, c7, rfl, hat7, b7⟩)
  have k7 := bthen k6 b7
  have cs := same_any A6 A7 c6 c7 w7.heap.size y y w7 (hat6.then b7) (hat7.more k7.size) (by omega)
  rw [S4] at cs
  have HS := Lib.hid cs
  clear cs hat5 hat6 hat7
  go_wp2_with fail
  ((with_reducible refine HS.out.mono ?_); rintro e w8 ⟨rfl, d8⟩)
  have k8 := bthen k7 (d8.below _)
  go_wp2_with fail
  ((with_reducible refine (fknown_any w8).mono ?_); rintro e w9 ⟨rfl, b9⟩)
  have k9 := bthen k8 b9
  go_wp2
  go_ret
  exact ⟨rfl, k9⟩

open Go.ChangeShapes Go.WideShapes in
open Go.ChangeMaps (open_string) in
theorem frameOpens_law : LawWalk Try.prog 4 Try.f4 := by
  intro H enc W base args ds p hval hA hsz
  rw [Try.params4] at hA hval hsz
  obtain ⟨v0, vs0, d0, ds0, p0, q0, hargs, rfl, rfl, h0, r0⟩ := trodAll_cons hA
  obtain ⟨v1, vs1, d1, ds1, p1, q1, rfl, rfl, rfl, h1, r1⟩ := trodAll_cons r0
  obtain ⟨rfl, rfl, rfl⟩ := trodAll_nil r1
  obtain rfl : args = #[v0, v1] := by cases args; simp_all
  obtain ⟨A0, c0, l0, rfl, hat0, hlc0, hd0⟩ := open_bytes Try.underlying22 Try.underlying5 (by kernel_rfl) (hval 0 _ v0 rfl rfl) h0
  obtain ⟨n1, rfl, rfl, rfl, wn1⟩ := open_int Try.underlying5 (hval 1 _ v1 rfl rfl) h1
  obtain ⟨s1, rfl, hs1⟩ := u8_nat wn1
  exact frameOpens_walk A0 c0 l0 s1 W hat0 hlc0 (bytes_reach hsz (j := 0) rfl rfl hlc0 hd0).2 hs1

set_option maxRecDepth 100000 in
theorem frameOpens_lifted (os : Os) (started : os.Started) (H : Type) (enc : TypeId × Value → H) :
    ReturnsInHanded {} Try.checked os 4 .any (Rows.frameOpensSpec.pre6 enc Try.prog Try.f4 Rows.frameOpensRow.domain false) (Rows.frameOpensSpec.post enc Try.prog Try.f4 false true false false) :=
  law_lifted (s := Rows.frameOpensSpec) started (by kernel_rfl) Try.func4 Try.underlying4 rfl rfl
    (by rw [Try.params4]; simp only [List.mem_cons, List.not_mem_nil, or_false, forall_eq_or_imp, forall_eq]; exact ⟨⟨by kernel_rfl, of_decide_eq_true (by kernel_rfl)⟩, ⟨by kernel_rfl, of_decide_eq_true (by kernel_rfl)⟩⟩)
    (fun H ds hl => by match ds, hl with | [_, _], _ => rfl)
    (ChangeSpec.witness6 (enc := enc) (C := Try.checked) false ⟨#[], #[.slice none 0 0, .int .u8 0], []⟩ 8 (by kernel_rfl) (by kernel_rfl) (by kernel_rfl) (by kernel_rfl)) frameOpens_law

theorem frameOpens_over : Rows.frameOpensRow.holds Try.pinned (OpenSpec.ofChange Rows.frameOpensSpec) :=
  OpenClaim.holds_of_wide 4 Try.f4 rfl rfl rfl rfl rfl rfl rfl ⟨rfl, rfl, rfl, rfl, rfl⟩ rfl rfl rfl rfl rfl (by kernel_rfl) Try.func4 (by kernel_rfl)
    (of_decide_eq_true (by kernel_rfl)) (by unfold Func.isWrapper; first | (rw [if_pos (by decide +kernel)]; kernel_rfl) | (rw [if_neg (by decide +kernel)]; exact ⟨rfl, rfl⟩))
    (fun os started H enc _ => frameOpens_lifted os started H enc)

theorem frameOpens_proved : Rows.FrameOpensSaid := frameOpens_over

end Go.Proofs.Ythhgcjdfmnceaaa
