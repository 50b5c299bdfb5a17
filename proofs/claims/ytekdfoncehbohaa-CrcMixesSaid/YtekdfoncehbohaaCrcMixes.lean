/- CrcMixes answers true at every input, and every argument reads afterwards as it did: 'crcMixes_proved'. Conditions: none but the statement's own. -/
import Derived.Test.YtekdfoncehbohaaCrcLaws
namespace Go.Proofs.Ytekdfoncehbohaa
open Go.RowKit Crc

/-- Three rows, byte by byte. -/
def mix (a b c : List UInt8) : Nat → List UInt8
  | 0 => []
  | n + 1 => mix a b c n ++ [a.getD n 0 ^^^ b.getD n 0 ^^^ c.getD n 0]
theorem mix_len (a b c : List UInt8) (n : Nat) : (mix a b c n).length = n := by
  induction n with
  | zero => rfl
  | succ n ih => simp [mix, ih]
theorem take_snocD (a : List UInt8) (n : Nat) (h : n < a.length) : a.take (n + 1) = a.take n ++ [a.getD n 0] := by
  rw [List.take_succ_eq_append_getElem h]
  simp [List.getD, h]
theorem reg_mix (a b c : List UInt8) (n : Nat) (ha : n ≤ a.length) (hb : n ≤ b.length) (hc : n ≤ c.length) (r s t : Nat) :
    reg (r ^^^ s ^^^ t) (mix a b c n) = reg r (a.take n) ^^^ reg s (b.take n) ^^^ reg t (c.take n) := by
  induction n with
  | zero => simp [mix, reg]
  | succ n ih =>
    rw [take_snocD a n (by omega), take_snocD b n (by omega), take_snocD c n (by omega)]
    show reg _ (mix a b c n ++ [_]) = _
    rw [reg_snoc, reg_snoc, reg_snoc, reg_snoc, ih (by omega) (by omega) (by omega), UInt8.toNat_xor, UInt8.toNat_xor, stepB_xor, stepB_xor]
theorem sum_mix (a b c : List UInt8) (n : Nat) (ha : n ≤ a.length) (hb : n ≤ b.length) (hc : n ≤ c.length) : sum (a.take n) ^^^ sum (b.take n) ^^^ sum (c.take n) = sum (mix a b c n) := by
  have h := reg_mix a b c n ha hb hc 4294967295 4294967295 4294967295
  rw [show (4294967295 : Nat) ^^^ 4294967295 ^^^ 4294967295 = 4294967295 from by decide] at h
  unfold sum more
  have e : ∀ l, 4294967295 - reg (4294967295 - 0) l = reg 4294967295 l ^^^ 4294967295 := fun l => by rw [Nat.sub_zero]; exact not_xor (reg_lt l (by omega))
  rw [e, e, e, e, h]
  generalize reg 4294967295 (a.take n) = x
  generalize reg 4294967295 (b.take n) = y
  generalize reg 4294967295 (c.take n) = z
  have hx : ∀ x y u : Nat, (x ^^^ u) ^^^ (y ^^^ u) = x ^^^ y := fun x y u => by rw [Nat.xor_comm y u, Nat.xor_assoc, ← Nat.xor_assoc u u y, Nat.xor_self, Nat.zero_xor]
  rw [hx, ← Nat.xor_assoc]

set_option maxHeartbeats 2000000 in
theorem crcMixes_walk (A0 : Option Addr) (c0 : Nat) (l0 : List UInt8) (A1 : Option Addr) (c1 : Nat) (l1 : List UInt8) (A2 : Option Addr) (c2 : Nat) (l2 : List UInt8) (w : World)
    (h0 : At w w.heap.size 1 A0 l0.length (l0.map u8v)) (hc0 : l0.length ≤ c0) (_hm0 : c0 ≤ 140737488351232)
    (h1 : At w w.heap.size 1 A1 l1.length (l1.map u8v)) (hc1 : l1.length ≤ c1) (_hm1 : c1 ≤ 140737488351232)
    (h2 : At w w.heap.size 1 A2 l2.length (l2.map u8v)) (hc2 : l2.length ≤ c2) (_hm2 : c2 ≤ 140737488351232) :
    Calls Try.prog 8 #[.slice A0 l0.length c0, .slice A1 l1.length c1, .slice A2 l2.length c2] w fun e w' => e = .returned (.bool true) ∧ Below w.heap.size w w' := by
  obtain ⟨i0, hi, hz0, hz1, hz2⟩ := info_parts info_u8
  obtain ⟨n, hn0, hn1, hn2, hmin⟩ : ∃ n : Nat, n ≤ l0.length ∧ n ≤ l1.length ∧ n ≤ l2.length ∧ ∀ (ts : Array TypeId) (t : TypeId) (W : World), (Builtin.min_ ts t #[.int .i64 (l0.length : Int), .int .i64 (l1.length : Int), .int .i64 (l2.length : Int)]).run Try.prog W = .ok (.int .i64 (n : Int)) W := by
    refine ⟨min (min l0.length l1.length) l2.length, by omega, by omega, by omega, fun ts t W => ?_⟩
    rw [run_min_int3]
    congr 2
    (repeat' split) <;> omega
  go_enter Try.func8, Try.ntmps8
  go_wp2
  clear hmin
  go_loopw [8, 9] (fun v i wr => ∃ k : Nat, k ≤ n ∧ i = .int .i64 k ∧ wr.ownsRow w.heap.size 5 1 v k ((mix l0 l1 l2 k).map u8v) ∧ Below w.heap.size w wr) (fun _ i _ => n - (intOf i).toNat)
  case atStart => exact ⟨0, Nat.zero_le _, rfl, World.ownsRow_nil _ _ _ _, Below.refl _ _⟩
  case round =>
    obtain ⟨k, hk, rfl, hown, hb⟩ := hrel
    by_cases hlt : k < n
    · obtain ⟨b0, o0, rfl, _, e0⟩ := (h0.below hb (Nat.le_refl _)).byte (show k < l0.length by omega)
      obtain ⟨b1, o1, rfl, _, e1⟩ := (h1.below hb (Nat.le_refl _)).byte (show k < l1.length by omega)
      obtain ⟨b2, o2, rfl, _, e2⟩ := (h2.below hb (Nat.le_refl _)).byte (show k < l2.length by omega)
      have hm : mix l0 l1 l2 (k + 1) = mix l0 l1 l2 k ++ [l0.getD k 0 ^^^ l1.getD k 0 ^^^ l2.getD k 0] := rfl
      obtain ⟨x, hx⟩ : ∃ x, x = l0.getD k 0 := ⟨_, rfl⟩
      obtain ⟨y, hy⟩ : ∃ y, y = l1.getD k 0 := ⟨_, rfl⟩
      obtain ⟨z, hz⟩ : ∃ z, z = l2.getD k 0 := ⟨_, rfl⟩
      rw [← hx] at e0
      rw [← hy] at e1
      rw [← hz] at e2
      rw [← hx, ← hy, ← hz] at hm
      have R1 := xor_u8 x y
      obtain ⟨p, hp⟩ : ∃ p, p = x ^^^ y := ⟨_, rfl⟩
      rw [← hp] at R1 hm
      have R2 := xor_u8 p z
      obtain ⟨q, hq⟩ : ∃ q, q = p ^^^ z := ⟨_, rfl⟩
      rw [← hq] at R2 hm
      have HM := Lib.hid hm
      have H0 := Lib.hid h0
      have H1 := Lib.hid h1
      have H2 := Lib.hid h2
      clear hx hy hz hp hq hm h0 h1 h2
      have k0 : k < l0.length := by omega
      have k1 : k < l1.length := by omega
      have k2 : k < l2.length := by omega
      go_wp2
      go_region_law (refine step_append_from _ rfl (.tmp 22) (.tmp 37) 22 rfl w.heap.size 5 i0 (.int .u8 0) 1 1 Try.underlying22 hi hz0 hz1 hz2 rfl (by decide) _ k _ rfl (hown.alloc _) (wr.heap.size + 1) (some ⟨wr.heap.size, 0, none⟩) 1 1 [u8v q] rfl (At.new _ [u8v q] 5 1 1 rfl) (by simp [Value.oneCell', u8v]) (by unfold maxLen; omega) (by omega) (by have := hb.size; simp; omega) ?_; intro v3 w3 hown3 hg3 _)
      all_goals
        have hb3 : Below w.heap.size w w3 := (hb.drew.alloc hb.size _).trans (grown_below (hown.alloc _) hg3 (by have := hb.size; simp; omega))
        have ho : w3.ownsRow w.heap.size 5 1 v3 (k + 1) ((mix l0 l1 l2 (k + 1)).map u8v) := by rw [HM.out, List.map_append]; exact hown3
        clear hown3 hg3 hown e0 e1 e2 R1 R2 HM
        go_wp2
        go_roundw
        case rel => exact ⟨k + 1, by omega, by go_num, ho, hb3⟩
        case measure => simp [intOf]; omega
    · obtain rfl : k = n := by omega
      have T0 := (h0.below hb (Nat.le_refl _)).take (k := k) (cap := c0) (by omega) hc0
      have T1 := (h1.below hb (Nat.le_refl _)).take (k := k) (cap := c1) (by omega) hc1
      have T2 := (h2.below hb (Nat.le_refl _)).take (k := k) (cap := c2) (by omega) hc2
      rw [Nat.mul_one, ← List.map_take] at T0 T1 T2
      have L0 : (l0.take k).length = k := by rw [List.length_take]; omega
      have L1 : (l1.take k).length = k := by rw [List.length_take]; omega
      have L2 : (l2.take k).length = k := by rw [List.length_take]; omega
      have LM := mix_len l0 l1 l2 k
      have HS := sum_mix l0 l1 l2 k hn0 hn1 hn2
      obtain ⟨t0, q0⟩ : ∃ t, t = l0.take k := ⟨_, rfl⟩
      obtain ⟨t1, q1⟩ : ∃ t, t = l1.take k := ⟨_, rfl⟩
      obtain ⟨t2, q2⟩ : ∃ t, t = l2.take k := ⟨_, rfl⟩
      obtain ⟨m, qm⟩ : ∃ t, t = mix l0 l1 l2 k := ⟨_, rfl⟩
      rw [← q0] at T0 L0 HS
      rw [← q1] at T1 L1 HS
      rw [← q2] at T2 L2 HS
      rw [← qm] at LM HS hown
      rw [← L0] at T0
      rw [← L1] at T1
      rw [← L2] at T2
      have X1 : bits BinOp.xor IntKind.u32 ((sum t0 : Nat) : Int) ((sum t1 : Nat) : Int) = ((sum t0 ^^^ sum t1 : Nat) : Int) := u32_xor_nat _ _ (sum_lt _) (sum_lt _)
      have X2 : bits BinOp.xor IntKind.u32 ((sum t0 ^^^ sum t1 : Nat) : Int) ((sum t2 : Nat) : Int) = ((sum m : Nat) : Int) := by rw [u32_xor_nat _ _ (Nat.xor_lt_two_pow (n := 32) (sum_lt _) (sum_lt _)) (sum_lt _), HS]
      have C0 : ∀ W, Below w.heap.size wr W → Calls Try.prog 11 #[.slice A0 k c0] W (MadeA W t0) := fun W hW => by
        have := own_at A0 c0 w.heap.size t0 W (T0.below hW (Nat.le_refl _)) (by omega)
        rw [L0] at this
        exact this
      have C1 : ∀ W, Below w.heap.size wr W → Calls Try.prog 11 #[.slice A1 k c1] W (MadeA W t1) := fun W hW => by
        have := own_at A1 c1 w.heap.size t1 W (T1.below hW (Nat.le_refl _)) (by omega)
        rw [L1] at this
        exact this
      have C2 : ∀ W, Below w.heap.size wr W → Calls Try.prog 11 #[.slice A2 k c2] W (MadeA W t2) := fun W hW => by
        have := own_at A2 c2 w.heap.size t2 W (T2.below hW (Nat.le_refl _)) (by omega)
        rw [L2] at this
        exact this
      have HC0 := Lib.hid C0
      have HC1 := Lib.hid C1
      have HC2 := Lib.hid C2
      have HM := Lib.hid LM
      clear C0 C1 C2 T0 T1 T2 q0 q1 q2 qm LM HS
      have HL0 := Lib.hid L0
      have HL1 := Lib.hid L1
      have HL2 := Lib.hid L2
      clear L0 L1 L2
      obtain ⟨A8, c8, rfl, hc8, _, hat8⟩ := own_slice hown
      have kc0 : k ≤ c0 := by omega
      have kc1 : k ≤ c1 := by omega
      have kc2 : k ≤ c2 := by omega
      have HH : Hid (∀ W, Below w.heap.size wr W → Below wr.heap.size wr W → Calls Try.prog 10 #[.slice A8 k c8] W fun e w' => e = .returned (.int .u32 (sum m : Nat)) ∧ Below W.heap.size W w') := fun W h1 h2 => by
        have := sum_any A8 c8 W.heap.size m W (by rw [HM.out]; exact hat8.then h2) (Nat.le_refl _) (by rw [HM.out]; omega)
        rw [HM.out] at this
        exact this
      clear hown hat8 h0 h1 h2
      go_wp2
      have hwr := hb.size
      have E0 : Below wr.heap.size wr wr.drew := (Below.refl _ _).drew
      have Q0 := HL0.out
      have Q1 := HL1.out
      have Q2 := HL2.out
      have G0 := Lib.hid (show t0.length ≤ 140737488351232 by omega)
      have G1 := Lib.hid (show t1.length ≤ 140737488351232 by omega)
      have G2 := Lib.hid (show t2.length ≤ 140737488351232 by omega)
      clear Q0 Q1 Q2
      go_region_with (first | (go_at_call 11; ((with_reducible refine (HC0.out _ (E0.mono hwr)).mono ?_); rintro e W1 ⟨X1, y1, rfl, a1, _, b1⟩); have E1 := E0.trans (b1.mono E0.size)) | (go_at_call 10; ((with_reducible refine (sum_any X1 y1 W1.heap.size t0 W1 a1 (Nat.le_refl _) (by have := G0.out; omega)).mono ?_); rintro e W2 ⟨rfl, b2⟩); have E2 := E1.trans (b2.mono E1.size)) | (go_at_call 11; ((with_reducible refine (HC1.out _ (E2.mono hwr)).mono ?_); rintro e W3 ⟨X3, y3, rfl, a3, _, b3⟩); have E3 := E2.trans (b3.mono E2.size)) | (go_at_call 10; ((with_reducible refine (sum_any X3 y3 W3.heap.size t1 W3 a3 (Nat.le_refl _) (by have := G1.out; omega)).mono ?_); rintro e W4 ⟨rfl, b4⟩); have E4 := E3.trans (b4.mono E3.size)) | (go_at_call 11; ((with_reducible refine (HC2.out _ (E4.mono hwr)).mono ?_); rintro e W5 ⟨X5, y5, rfl, a5, _, b5⟩); have E5 := E4.trans (b5.mono E4.size)) | (go_at_call 10; ((with_reducible refine (sum_any X5 y5 W5.heap.size t2 W5 a5 (Nat.le_refl _) (by have := G2.out; omega)).mono ?_); rintro e W6 ⟨rfl, b6⟩); have E6 := E5.trans (b6.mono E5.size)) | (go_at_call 10; ((with_reducible refine (HH.out _ (E6.mono hwr) E6).mono ?_); rintro e W7 ⟨rfl, b7⟩); have E7 := E6.trans (b7.mono E6.size)) | (go_at_call 15; ((with_reducible refine (known_any W7).mono ?_); rintro e W8 ⟨rfl, b8⟩); have E8 := E7.trans (b8.mono E7.size)))
      go_wp2
      go_ret
      exact ⟨rfl, hb.trans (E8.mono hwr)⟩

open Go.ChangeShapes Go.WideShapes in
open Go.ChangeMaps (open_string) in
theorem crcMixes_law : LawWalk Try.prog 8 Try.f8 := by
  intro H enc W base args ds p hval hA hsz
  rw [Try.params8] at hA hval hsz
  obtain ⟨v0, vs0, d0, ds0, p0, q0, hargs, rfl, rfl, h0, r0⟩ := trodAll_cons hA
  obtain ⟨v1, vs1, d1, ds1, p1, q1, rfl, rfl, rfl, h1, r1⟩ := trodAll_cons r0
  obtain ⟨v2, vs2, d2, ds2, p2, q2, rfl, rfl, rfl, h2, r2⟩ := trodAll_cons r1
  obtain ⟨rfl, rfl, rfl⟩ := trodAll_nil r2
  obtain rfl : args = #[v0, v1, v2] := by cases args; simp_all
  obtain ⟨A0, c0, l0, rfl, hat0, hlc0, hd0⟩ := open_bytes Try.underlying22 Try.underlying5 (by kernel_rfl) (hval 0 _ v0 rfl rfl) h0
  obtain ⟨A1, c1, l1, rfl, hat1, hlc1, hd1⟩ := open_bytes Try.underlying22 Try.underlying5 (by kernel_rfl) (hval 1 _ v1 rfl rfl) h1
  obtain ⟨A2, c2, l2, rfl, hat2, hlc2, hd2⟩ := open_bytes Try.underlying22 Try.underlying5 (by kernel_rfl) (hval 2 _ v2 rfl rfl) h2
  exact crcMixes_walk A0 c0 l0 A1 c1 l1 A2 c2 l2 W hat0 hlc0 (bytes_reach hsz (j := 0) rfl rfl hlc0 hd0).2 hat1 hlc1 (bytes_reach hsz (j := 1) rfl rfl hlc1 hd1).2 hat2 hlc2 (bytes_reach hsz (j := 2) rfl rfl hlc2 hd2).2

set_option maxRecDepth 100000 in
theorem crcMixes_lifted (os : Os) (started : os.Started) (H : Type) (enc : TypeId × Value → H) :
    ReturnsInHanded {} Try.checked os 8 .any (Rows.crcMixesSpec.pre6 enc Try.prog Try.f8 Rows.crcMixesRow.domain false) (Rows.crcMixesSpec.post enc Try.prog Try.f8 false true false false) :=
  law_lifted (s := Rows.crcMixesSpec) started (by kernel_rfl) Try.func8 Try.underlying4 rfl rfl
    (by rw [Try.params8]; simp only [List.mem_cons, List.not_mem_nil, or_false, forall_eq_or_imp, forall_eq]; exact ⟨⟨by kernel_rfl, of_decide_eq_true (by kernel_rfl)⟩, ⟨by kernel_rfl, of_decide_eq_true (by kernel_rfl)⟩, ⟨by kernel_rfl, of_decide_eq_true (by kernel_rfl)⟩⟩)
    (fun H ds hl => by match ds, hl with | [_, _, _], _ => rfl)
    (ChangeSpec.witness6 (enc := enc) (C := Try.checked) false ⟨#[], #[.slice none 0 0, .slice none 0 0, .slice none 0 0], []⟩ 8 (by kernel_rfl) (by kernel_rfl) (by kernel_rfl) (by kernel_rfl)) crcMixes_law

theorem crcMixes_over : Rows.crcMixesRow.holds Try.pinned (OpenSpec.ofChange Rows.crcMixesSpec) :=
  OpenClaim.holds_of_wide 8 Try.f8 rfl rfl rfl rfl rfl rfl rfl ⟨rfl, rfl, rfl, rfl, rfl⟩ rfl rfl rfl rfl rfl (by kernel_rfl) Try.func8 (by kernel_rfl)
    (of_decide_eq_true (by kernel_rfl)) (by unfold Func.isWrapper; first | (rw [if_pos (by decide +kernel)]; kernel_rfl) | (rw [if_neg (by decide +kernel)]; exact ⟨rfl, rfl⟩))
    (fun os started H enc _ => crcMixes_lifted os started H enc)

theorem crcMixes_proved : Rows.CrcMixesSaid := crcMixes_over

end Go.Proofs.Ytekdfoncehbohaa
