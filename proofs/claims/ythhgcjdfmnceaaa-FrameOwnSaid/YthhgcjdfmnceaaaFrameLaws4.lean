/- FrameSpoils answers true at every input, and every argument reads afterwards as it did: 'frameSpoils_proved'. Conditions: none but the statement's own. -/
import Derived.Test.YthhgcjdfmnceaaaFrameLaws3
import Derived.Test.YthhgcjdfmnceaaaFrameRow
namespace Go.Proofs.Ythhgcjdfmnceaaa
open Go.RowKit Crc

theorem set_getD (l : List UInt8) (p j : Nat) (x : UInt8) (hp : p < l.length) : (l.set p x).getD j 0 = if j = p then x else l.getD j 0 := by
  by_cases h : j = p
  · subst h; simp [List.getD, hp]
  · rw [if_neg h]; simp [List.getD, Ne.symm h]

set_option maxHeartbeats 4000000 in
theorem frameSpoils_walk (A : Option Addr) (c : Nat) (l : List UInt8) (n : Int) (t : Nat) (w : World) (h1 : At w w.heap.size 1 A l.length (l.map u8v)) (hlc : l.length ≤ c) (hm : c ≤ 140737488351232) (ha : -9223372036854775808 ≤ n) (hb : n ≤ 9223372036854775807) (ht : t < 256) :
    Calls Try.prog 7 #[.slice A l.length c, .int .i64 n, .int .u8 (t : Int)] w fun e w' => e = .returned (.bool true) ∧ Below w.heap.size w w' := by
  obtain ⟨m, rfl⟩ := u8_name ht
  have hsa : ∀ A c W, At W W.heap.size 1 A l.length (l.map u8v) → Calls Try.prog 19 #[.slice A l.length c, .int .i64 n, .int .u8 (m.toNat : Int)] W (AnsO W (spoilL l n m)) := fun A c W h => spoil_own A c W.heap.size l n m W h (Nat.le_refl _) (by omega) ha hb
  by_cases hn : n < 0 ∨ (l.length : Int) ≤ n
  · rw [spoil_far m hn] at hsa
    have hsb : ∀ A c W, At W W.heap.size 1 A l.length (l.map u8v) → Calls Try.prog 19 #[.slice A l.length c, .int .i64 n, .int .u8 (m.toNat : Int)] W fun e w' => ∃ A c, e = .returned (.tuple #[.slice A 0 c, .int .i64 17]) ∧ Below W.heap.size W w' := fun A c W h => (hsa A c W h).mono fun e w' ⟨A, c, he, _, _, hb⟩ => ⟨A, c, he, hb⟩
    have C2 := Lib.hid hsb
    clear hsa hsb
    rcases Int.lt_or_le n 0 with hn0 | hn0
    · clear hn
      go_enter Try.func7, Try.ntmps7
      go_wp2_with fail
      ((with_reducible refine (own_at A c w.heap.size l w h1 (by omega)).mono ?_); rintro e w1 ⟨A1, c1, rfl, hat1, _, b1⟩)
      go_wp2_with fail
      ((with_reducible refine (C2.out A1 c1 w1 hat1).mono ?_); rintro e w3 ⟨A3, c3, rfl, b3⟩)
      have k3 := bthen b1 b3
      clear hat1
      go_wp2_with fail
      ((with_reducible refine (fknown_any w3).mono ?_); rintro e w9 ⟨rfl, b9⟩)
      have k9 := bthen k3 b9
      go_wp2
      go_ret
      exact ⟨rfl, k9⟩
    · have hn1 : (l.length : Int) ≤ n := by omega
      clear hn
      go_enter Try.func7, Try.ntmps7
      go_wp2_with fail
      ((with_reducible refine (own_at A c w.heap.size l w h1 (by omega)).mono ?_); rintro e w1 ⟨A1, c1, rfl, hat1, _, b1⟩)
      go_wp2_with fail
      ((with_reducible refine (C2.out A1 c1 w1 hat1).mono ?_); rintro e w3 ⟨A3, c3, rfl, b3⟩)
      have k3 := bthen b1 b3
      clear hat1
      go_wp2_with fail
      ((with_reducible refine (fknown_any w3).mono ?_); rintro e w9 ⟨rfl, b9⟩)
      have k9 := bthen k3 b9
      go_wp2
      go_ret
      exact ⟨rfl, k9⟩
  · obtain ⟨p, rfl⟩ := Int.eq_ofNat_of_zero_le (show 0 ≤ n by omega)
    have hp : p < l.length := by omega
    have hp2 : ¬ ((l.length : Int) ≤ (p : Int)) := by omega
    have hp0 : (0 : Int) ≤ (p : Int) := by omega
    clear hn
    by_cases hm0 : m = 0
    · rw [hm0] at hsa
      rw [spoil_no hp] at hsa
      have hz : (((0 : UInt8).toNat : Nat) : Int) = (m.toNat : Int) := by rw [hm0]
      simp only [hz] at hsa
      have hsb : ∀ A c W, At W W.heap.size 1 A l.length (l.map u8v) → Calls Try.prog 19 #[.slice A l.length c, .int .i64 (p : Int), .int .u8 (m.toNat : Int)] W fun e w' => ∃ A c, e = .returned (.tuple #[.slice A 0 c, .int .i64 2]) ∧ Below W.heap.size W w' := fun A c W h => (hsa A c W h).mono fun e w' ⟨A, c, he, _, _, hb⟩ => ⟨A, c, he, hb⟩
      have C2 := Lib.hid hsb
      have hmz := u8_zero hm0
      clear hsa hsb hz hm0
      go_enter Try.func7, Try.ntmps7
      go_wp2_with fail
      ((with_reducible refine (own_at A c w.heap.size l w h1 (by omega)).mono ?_); rintro e w1 ⟨A1, c1, rfl, hat1, _, b1⟩)
      go_wp2_with fail
      ((with_reducible refine (C2.out A1 c1 w1 hat1).mono ?_); rintro e w3 ⟨A3, c3, rfl, b3⟩)
      have k3 := bthen b1 b3
      clear hat1
      go_wp2_with fail
      ((with_reducible refine (fknown_any w3).mono ?_); rintro e w9 ⟨rfl, b9⟩)
      have k9 := bthen k3 b9
      go_wp2
      go_ret
      exact ⟨rfl, k9⟩
    · rw [spoil_at hp hm0] at hsa
      have hmz := u8_nonzero hm0
      have hgd := fun j => set_getD l p j (l.getD p 0 ^^^ m) hp
      obtain ⟨g, hg⟩ : ∃ g, g = l.set p (l.getD p 0 ^^^ m) := ⟨_, rfl⟩
      have hgl : g.length = l.length := by rw [hg, List.length_set]
      rw [← hg] at hsa hgd
      have hsb : ∀ A c W, At W W.heap.size 1 A l.length (l.map u8v) → Calls Try.prog 19 #[.slice A l.length c, .int .i64 (p : Int), .int .u8 (m.toNat : Int)] W fun e w' => ∃ A c, e = .returned (.tuple #[.slice A l.length c, .int .i64 0]) ∧ Own w' W.heap.size A g ∧ l.length ≤ c ∧ Below W.heap.size W w' := fun A c W h => (hsa A c W h).mono fun e w' ⟨A, c, he, ho, hc, hb⟩ => ⟨A, c, by rw [he, hgl]; rfl, ho, by rw [← hgl]; exact hc, hb⟩
      have C2 := Lib.hid hsb
      have HGD := Lib.hid hgd
      have HGL := Lib.hid hgl
      have S1 : (l == l) = true := by simp
      clear hsa hsb hgd hg hgl hm0
      go_enter Try.func7, Try.ntmps7
      go_wp2_with fail
      ((with_reducible refine (own_at A c w.heap.size l w h1 (by omega)).mono ?_); rintro e w1 ⟨A1, c1, rfl, hat1, hc1, b1⟩)
      go_wp2_with fail
      ((with_reducible refine (C2.out A1 c1 w1 hat1).mono ?_); rintro e w2 ⟨A2, c2, rfl, ho2, hc2, b2⟩)
      have k2 := bthen b1 b2
      have cs := same_any A1 A c1 c w2.heap.size l l w2 (hat1.then b2) (h1.arg k2) (by omega)
      rw [S1] at cs
      have HS := Lib.hid cs
      clear cs
      go_wp2_with fail
      ((with_reducible refine HS.out.mono ?_); rintro e w3 ⟨rfl, d3⟩)
      clear HS
      have k3 := bthen k2 (d3.below _)
      have ho3 := ho2.below (d3.below _)
      obtain ⟨gb, go, rfl, hgb, hgl, hcl⟩ := ho3 (by rw [HGL.out]; omega)
      have h13 : Below w1.heap.size w1 w3 := bthen b2 (d3.below _)
      have HCL := Lib.hid hcl
      have HA := Lib.hid (h1.arg k3)
      have HX := Lib.hid hat1
      have H1 := Lib.hid h1
      clear hcl ho2 ho3 hat1 h1
      go_wp2
      go_loopw [10, 11] (fun i _ wr => wr = w3 ∧ ∃ k : Nat, k ≤ l.length ∧ i = .int .i64 k) (fun i _ _ => l.length - (intOf i).toNat)
      case atStart => exact ⟨rfl, 0, Nat.zero_le _, rfl⟩
      case round =>
        obtain ⟨rfl, k, hk, rfl⟩ := hrel
        by_cases hlt : k < l.length
        · obtain ⟨bx, ox, rfl, _, hc⟩ := HA.out.byte hlt
          have hs := (HCL.out k (by rw [HGL.out]; exact hlt)).1
          rw [HGD.out k] at hs
          by_cases hkp : k = p
          · rw [if_pos hkp, ← hkp] at hs
            have hkp2 : ((k : Int) == (p : Int)) = true := by rw [hkp]; simp
            have hx := xor_u8 (l.getD k 0) m
            obtain ⟨x, hxx⟩ : ∃ x, x = l.getD k 0 := ⟨_, rfl⟩
            rw [← hxx] at hx hs hc
            obtain ⟨y, hyy⟩ : ∃ y, y = x ^^^ m := ⟨_, rfl⟩
            rw [← hyy] at hx hs
            clear hkp hxx hyy
            go_wp2
            go_roundw
            case rel => exact ⟨trivial, k + 1, by omega, by go_num⟩
            case measure => simp [intOf]; omega
          · rw [if_neg hkp] at hs
            have hkp2 : ((k : Int) == (p : Int)) = false := by rw [beq_eq_false_iff_ne]; omega
            obtain ⟨x, hxx⟩ : ∃ x, x = l.getD k 0 := ⟨_, rfl⟩
            rw [← hxx] at hs hc
            clear hkp hxx
            go_wp2
            go_roundw
            case rel => exact ⟨trivial, k + 1, by omega, by go_num⟩
            case measure => simp [intOf]; omega
        · obtain ⟨hcp, hfp⟩ := HCL.out p (by rw [HGL.out]; exact hp)
          have hpl : (p : Int) < (l.length : Int) := by omega
          have b4 : ∀ v, Below w1.heap.size w1 (wr.setCell ⟨gb, go + p, none⟩ v) := fun v => h13.setCell (p := ⟨gb, go + p, none⟩) hgb v
          have k4 : ∀ v, Below w.heap.size w (wr.setCell ⟨gb, go + p, none⟩ v) := fun v => k3.setCell (p := ⟨gb, go + p, none⟩) (by show w.heap.size ≤ gb; have := b1.size; omega) v
          have B4 := Lib.hid b4
          have K4 := Lib.hid k4
          clear b4 k4
          go_wp2_with fail
          refine (same_any A1 A c1 c _ l l _ (HX.out.then (B4.out _)) (H1.out.arg (K4.out _)) (by omega)).mono ?_
          rintro e w5 ⟨rfl, d5⟩
          have k5 := bthen (K4.out _) (d5.below _)
          go_wp2_with fail
          ((with_reducible refine (fknown_any w5).mono ?_); rintro e w9 ⟨rfl, b9⟩)
          have k9 := bthen k5 b9
          go_wp2
          go_ret
          exact ⟨rfl, k9⟩

open Go.ChangeShapes Go.WideShapes in
open Go.ChangeMaps (open_string) in
theorem frameSpoils_law : LawWalk Try.prog 7 Try.f7 := by
  intro H enc W base args ds p hval hA hsz
  rw [Try.params7] at hA hval hsz
  obtain ⟨v0, vs0, d0, ds0, p0, q0, hargs, rfl, rfl, h0, r0⟩ := trodAll_cons hA
  obtain ⟨v1, vs1, d1, ds1, p1, q1, rfl, rfl, rfl, h1, r1⟩ := trodAll_cons r0
  obtain ⟨v2, vs2, d2, ds2, p2, q2, rfl, rfl, rfl, h2, r2⟩ := trodAll_cons r1
  obtain ⟨rfl, rfl, rfl⟩ := trodAll_nil r2
  obtain rfl : args = #[v0, v1, v2] := by cases args; simp_all
  obtain ⟨A0, c0, l0, rfl, hat0, hlc0, hd0⟩ := open_bytes Try.underlying22 Try.underlying5 (by kernel_rfl) (hval 0 _ v0 rfl rfl) h0
  obtain ⟨n1, rfl, rfl, rfl, wn1⟩ := open_int Try.underlying3 (hval 1 _ v1 rfl rfl) h1
  obtain ⟨ha1, hb1⟩ := i64_in wn1
  obtain ⟨n2, rfl, rfl, rfl, wn2⟩ := open_int Try.underlying5 (hval 2 _ v2 rfl rfl) h2
  obtain ⟨s2, rfl, hs2⟩ := u8_nat wn2
  exact frameSpoils_walk A0 c0 l0 n1 s2 W hat0 hlc0 (bytes_reach hsz (j := 0) rfl rfl hlc0 hd0).2 ha1 hb1 hs2

set_option maxRecDepth 100000 in
theorem frameSpoils_lifted (os : Os) (started : os.Started) (H : Type) (enc : TypeId × Value → H) :
    ReturnsInHanded {} Try.checked os 7 .any (Rows.frameSpoilsSpec.pre6 enc Try.prog Try.f7 Rows.frameSpoilsRow.domain false) (Rows.frameSpoilsSpec.post enc Try.prog Try.f7 false true false false) :=
  law_lifted (s := Rows.frameSpoilsSpec) started (by kernel_rfl) Try.func7 Try.underlying4 rfl rfl
    (by rw [Try.params7]; simp only [List.mem_cons, List.not_mem_nil, or_false, forall_eq_or_imp, forall_eq]; exact ⟨⟨by kernel_rfl, of_decide_eq_true (by kernel_rfl)⟩, ⟨by kernel_rfl, of_decide_eq_true (by kernel_rfl)⟩, ⟨by kernel_rfl, of_decide_eq_true (by kernel_rfl)⟩⟩)
    (fun H ds hl => by match ds, hl with | [_, _, _], _ => rfl)
    (ChangeSpec.witness6 (enc := enc) (C := Try.checked) false ⟨#[], #[.slice none 0 0, .int .i64 0, .int .u8 0], []⟩ 8 (by kernel_rfl) (by kernel_rfl) (by kernel_rfl) (by kernel_rfl)) frameSpoils_law

theorem frameSpoils_over : Rows.frameSpoilsRow.holds Try.pinned (OpenSpec.ofChange Rows.frameSpoilsSpec) :=
  OpenClaim.holds_of_wide 7 Try.f7 rfl rfl rfl rfl rfl rfl rfl ⟨rfl, rfl, rfl, rfl, rfl⟩ rfl rfl rfl rfl rfl (by kernel_rfl) Try.func7 (by kernel_rfl)
    (of_decide_eq_true (by kernel_rfl)) (by unfold Func.isWrapper; first | (rw [if_pos (by decide +kernel)]; kernel_rfl) | (rw [if_neg (by decide +kernel)]; exact ⟨rfl, rfl⟩))
    (fun os started H enc _ => frameSpoils_lifted os started H enc)

theorem frameSpoils_proved : Rows.FrameSpoilsSaid := frameSpoils_over

end Go.Proofs.Ythhgcjdfmnceaaa
