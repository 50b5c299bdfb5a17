/- FrameOwn answers true at every input, and every argument reads afterwards as it did: 'frameOwn_proved'. Conditions: none but the statement's own. -/
import Derived.Test.YthhgcjdfmnceaaaFrameLaws4
namespace Go.Proofs.Ythhgcjdfmnceaaa
open Go.RowKit Crc

theorem grown_any {a W : World} {B g : Nat} (hg : a.grownBy W (some g)) (hB : B ≤ a.heap.size) (h : B ≤ g) : Below B a W := (Below.refl B a).grown hg hB (fun k e => by injection e with e; omega)
/-- One block is turned, if there is something in it. -/
def Turned (a W : World) (g n : Nat) : Prop := a.grownBy W (some g) ∧ (n = 0 → W = a)
theorem Turned.refl (a : World) (g n : Nat) : Turned a a g n := ⟨World.grownBy.refl _ _, fun _ => rfl⟩
theorem Turned.set {a W : World} {g n i j : Nat} (h : Turned a W g n) (hj : j < n) (u : Value) : Turned a (W.setCell ⟨g, i, none⟩ u) g n := ⟨grown_set2 h.1 u, fun e => absurd e (by omega)⟩
theorem Turned.below {a W : World} {B g n : Nat} (h : Turned a W g n) (hB : B ≤ a.heap.size) (hg : 0 < n → B ≤ g) : Below B a W := by
  rcases Nat.eq_zero_or_pos n with h0 | h0
  · rw [h.2 h0]; exact Below.refl _ _
  · exact grown_any h.1 hB (hg h0)
theorem Own.turned {w W : World} {B g n : Nat} {A : Option Addr} {l : List UInt8} (h : Own w B A l) (ht : Turned w W g n) (hg : 0 < n → g < B) : Own W B A l := by
  rcases Nat.eq_zero_or_pos n with h0 | h0
  · rw [ht.2 h0]; exact h
  · exact h.grown ht.1 (hg h0)
theorem IntRow.below {w W : World} {g o n : Nat} (h : IntRow w g o n) (hb : Below w.heap.size w W) (hl : 0 < n → g < w.heap.size) : IntRow W g o n := fun j hj => by
  obtain ⟨⟨x, hx⟩, hf⟩ := h j hj
  have := hl (by omega)
  exact ⟨⟨x, (hb.cell (p := ⟨g, o + j, none⟩) this).trans hx⟩, (hb.frozen (p := ⟨g, o + j, none⟩) this).trans hf⟩

set_option maxHeartbeats 4000000 in
theorem frameOwn_walk (s : Nat) (A : Option Addr) (c : Nat) (l : List UInt8) (w : World) (hs : s < 256) (h1 : At w w.heap.size 1 A l.length (l.map u8v)) (_hlc : l.length ≤ c) (hm : c ≤ 140737488351232) :
    Calls Try.prog 9 #[.int .u8 (s : Int), .slice A l.length c] w fun e w' => e = .returned (.bool true) ∧ Below w.heap.size w w' := by
  obtain ⟨k, rfl⟩ := u8_name hs
  by_cases hk : k = 0
  · have hk0 := u8_zero hk
    clear hk
    go_enter Try.func9, Try.ntmps9
    go_wp2_with fail
    ((with_reducible refine (fknown_any w).mono ?_); rintro e w9 ⟨rfl, b9⟩)
    go_wp2
    go_ret
    exact ⟨rfl, b9⟩
  · have hk0 := u8_nonzero hk
    have hfl0 := frameL_pos l hk
    have hop := open_frame l hk
    have hbo := bodyK_frame k l hk
    rw [if_pos rfl] at hbo
    obtain ⟨f, hf⟩ : ∃ f, f = frameL k l := ⟨_, rfl⟩
    rw [← hf] at hfl0 hop hbo
    have e0 : frameE k = 0 := by unfold frameE; rw [if_neg hk]
    have c1 : ∀ A c W, At W W.heap.size 1 A l.length (l.map u8v) → Calls Try.prog 10 #[.int .u8 (k.toNat : Int), .slice A l.length c] W (AnsO W (f, 0)) := fun A c W h => by rw [hf, ← e0]; exact frame_own k A c W.heap.size l W h (Nat.le_refl _) (by omega)
    have hfl : f.length ≤ l.length + 5 := by omega
    have c0 : ∀ A c W, At W W.heap.size 1 A f.length (f.map u8v) → Calls Try.prog 11 #[.slice A f.length c] W (MadeB W f) := fun A c W h => own_any A c W.heap.size f W h (by omega)
    have c2 : ∀ A c W, At W W.heap.size 1 A f.length (f.map u8v) → f.length ≤ c → Calls Try.prog 15 #[.slice A f.length c] W (OpenO W (k, l, 0)) := fun A c W h hc => by rw [← hop]; exact fopen_own A c W.heap.size f W h (Nat.le_refl _) hc (by omega)
    have c3 : ∀ A c W, At W W.heap.size 1 A f.length (f.map u8v) → f.length ≤ c → Calls Try.prog 17 #[.int .u8 (k.toNat : Int), .slice A f.length c] W (AnsO W (l, 0)) := fun A c W h hc => by rw [← hbo]; exact fbody_own k A c W.heap.size f W h (Nat.le_refl _) hc (by omega)
    have C0 := Lib.hid c0
    have C1 := Lib.hid c1
    have C2 := Lib.hid c2
    have C3 := Lib.hid c3
    have S1 : (l == l) = true := by simp
    clear c0 c1 c2 c3 hop hbo e0 hf hfl0 hk
    go_enter Try.func9, Try.ntmps9
    go_wp2_with fail
    ((with_reducible refine (own_any A c w.heap.size l w h1 (by omega)).mono ?_); rintro e w1 ⟨v1, rfl, hown1, b1⟩)
    obtain ⟨A1, c1, rfl, _, _, hat1⟩ := own_slice hown1
    obtain ⟨g1, o1, hA1, ⟨hg1, hl1⟩, hr1⟩ := (own_of_row hown1).where
    go_wp2_with fail
    ((with_reducible refine (C1.out A1 c1 w1 hat1).mono ?_); rintro e w2 ⟨A2, c2, rfl, ho2, hc2, b2⟩)
    have k2 := bthen b1 b2
    have hr2 := hr1.below b2 hl1
    have H1 := Lib.hid h1
    have HO2 := Lib.hid ho2
    have HA1 := Lib.hid hA1
    have HL1 := Lib.hid hl1
    clear hat1 hown1 hr1 h1 ho2 hA1 hl1
    go_wp2
    go_loopw [8] (fun i wr => ∃ j : Nat, j ≤ l.length ∧ i = .int .i64 j ∧ IntRow wr g1 o1 l.length ∧ Turned w2 wr g1 l.length) (fun i _ => l.length - (intOf i).toNat)
    case atStart => exact ⟨0, Nat.zero_le _, rfl, hr2, Turned.refl _ _ _⟩
    case round =>
      obtain ⟨j, hj, rfl, hr, hg⟩ := hrel
      clear hr2
      by_cases hlt : j < l.length
      · obtain ⟨⟨x, hx⟩, hf⟩ := hr j hlt
        obtain rfl := HA1.out (by omega)
        have HR := Lib.hid hr
        clear hr
        go_wp2
        go_roundw
        case rel => exact ⟨j + 1, by omega, by go_num, HR.out.set _, hg.set hlt _⟩
        case measure => simp [intOf]; omega
      · have k3 : Below w.heap.size w wr := k2.trans (hg.below k2.size (fun _ => hg1))
        have ho3 : Own wr w1.heap.size A2 f := HO2.out.turned hg HL1.out
        obtain ⟨w3, rfl⟩ : ∃ w3 : World, w3 = wr := ⟨_, rfl⟩
        clear hr hg
        go_wp2_with fail
        refine (C0.out A2 c2 w3 ho3.at).mono ?_
        rintro e w4 ⟨v4, rfl, hown4, b4⟩
        have k4 := bthen k3 b4
        obtain ⟨A4, c4, rfl, hc4, _, hat4⟩ := own_slice hown4
        obtain ⟨g4, o4, hA4, ⟨hg4, hl4⟩, hr4⟩ := (own_of_row hown4).where
        go_wp2_with fail
        refine (C2.out A4 c4 w4 hat4 hc4).mono ?_
        rintro e w5 ⟨A5, c5, rfl, ho5, hc5, b5⟩
        have k5 := bthen k4 b5
        go_wp2_with fail
        refine (C3.out A4 c4 w5 (hat4.then b5) hc4).mono ?_
        rintro e w6 ⟨A6, c6, rfl, ho6, hc6, b6⟩
        have k6 := bthen k5 b6
        have b46 : Below w4.heap.size w4 w6 := bthen b5 b6
        have hr6 := hr4.below b46 hl4
        have ho56 := ho5.below b6
        obtain ⟨gx, ox, hAx, ⟨_, hlx⟩, _⟩ := ho5.where
        have HX := Lib.hid hAx
        have HY := Lib.hid hlx
        clear hAx hlx
        have HA4 := Lib.hid hA4
        have HL4 := Lib.hid hl4
        have HO5 := Lib.hid ho56
        have HO6 := Lib.hid ho6
        have s5 : w4.heap.size ≤ w5.heap.size := b5.size
        clear hown4 hat4 ho3 hr4 ho5 ho6 ho56 hA4 hl4 HO2
        go_wp2
        go_loopw [15] (fun i wr => ∃ j : Nat, j ≤ f.length ∧ i = .int .i64 j ∧ IntRow wr g4 o4 f.length ∧ Turned w6 wr g4 f.length) (fun i _ => f.length - (intOf i).toNat)
        case atStart => exact ⟨0, Nat.zero_le _, rfl, hr6, Turned.refl _ _ _⟩
        case round =>
          obtain ⟨j, hj, rfl, hr, hg⟩ := hrel
          clear hr6
          by_cases hlt : j < f.length
          · obtain ⟨⟨x, hx⟩, hf⟩ := hr j hlt
            obtain rfl := HA4.out (by omega)
            have HR := Lib.hid hr
            clear hr
            go_wp2
            go_roundw
            case rel => exact ⟨j + 1, by omega, by go_num, HR.out.set _, hg.set hlt _⟩
            case measure => simp [intOf]; omega
          · have k7 : Below w.heap.size w wr := k6.trans (hg.below k6.size (fun _ => Nat.le_trans k3.size hg4))
            have ho57 : Own wr w4.heap.size A5 l := HO5.out.turned hg HL4.out
            have ho67 : Own wr w5.heap.size A6 l := HO6.out.turned hg (fun h => Nat.lt_of_lt_of_le (HL4.out h) s5)
            obtain ⟨w7, rfl⟩ : ∃ w7 : World, w7 = wr := ⟨_, rfl⟩
            clear hr hg
            have cs := same_any A5 A c5 c w7.heap.size l l w7 ho57.at (H1.out.arg k7) (by omega)
            rw [S1] at cs
            have HS := Lib.hid cs
            clear cs
            go_wp2_with fail
            ((with_reducible refine HS.out.mono ?_); rintro e w8 ⟨rfl, d8⟩)
            clear HS
            have k8 := bthen k7 (d8.below _)
            obtain ⟨g5, o5, hA5, ⟨hg5, hl5⟩, hr5⟩ := (ho57.below (d8.below _)).where
            have HO6 := Lib.hid (ho67.below (d8.below _))
            have HA5 := Lib.hid hA5
            have hgb : Hid (0 < l.length → g5 < w5.heap.size) := fun h => by
              have e := (hA5 h).symm.trans (HX.out h)
              injection e with e
              injection e with e _
              rw [e]
              exact HY.out h
            clear hA5 hl5 ho57 ho67
            go_wp2
            go_loopw [16] (fun i wr => ∃ j : Nat, j ≤ l.length ∧ i = .int .i64 j ∧ IntRow wr g5 o5 l.length ∧ Turned w8 wr g5 l.length) (fun i _ => l.length - (intOf i).toNat)
            case atStart => exact ⟨0, Nat.zero_le _, rfl, hr5, Turned.refl _ _ _⟩
            case round =>
              obtain ⟨j, hj, rfl, hr, hg⟩ := hrel
              clear hr5
              by_cases hlt : j < l.length
              · obtain ⟨⟨x, hx⟩, hf⟩ := hr j hlt
                obtain rfl := HA5.out (by omega)
                have HR := Lib.hid hr
                clear hr
                go_wp2
                go_roundw
                case rel => exact ⟨j + 1, by omega, by go_num, HR.out.set _, hg.set hlt _⟩
                case measure => simp [intOf]; omega
              · have k9 : Below w.heap.size w wr := k8.trans (hg.below k8.size (fun _ => by have := k4.size; omega))
                have ho69 : Own wr w5.heap.size A6 l := HO6.out.turned hg hgb.out
                obtain ⟨w9, rfl⟩ : ∃ w9 : World, w9 = wr := ⟨_, rfl⟩
                clear hr hg
                have cs := same_any A6 A c6 c w9.heap.size l l w9 ho69.at (H1.out.arg k9) (by omega)
                rw [S1] at cs
                have HS := Lib.hid cs
                clear cs
                go_wp2_with fail
                ((with_reducible refine HS.out.mono ?_); rintro e w10 ⟨rfl, d10⟩)
                clear HS
                have k10 := bthen k9 (d10.below _)
                go_wp2_with fail
                ((with_reducible refine (fknown_any w10).mono ?_); rintro e w11 ⟨rfl, b11⟩)
                have k11 := bthen k10 b11
                go_wp2
                go_ret
                exact ⟨rfl, k11⟩

open Go.ChangeShapes Go.WideShapes in
open Go.ChangeMaps (open_string) in
theorem frameOwn_law : LawWalk Try.prog 9 Try.f9 := by
  intro H enc W base args ds p hval hA hsz
  rw [Try.params9] at hA hval hsz
  obtain ⟨v0, vs0, d0, ds0, p0, q0, hargs, rfl, rfl, h0, r0⟩ := trodAll_cons hA
  obtain ⟨v1, vs1, d1, ds1, p1, q1, rfl, rfl, rfl, h1, r1⟩ := trodAll_cons r0
  obtain ⟨rfl, rfl, rfl⟩ := trodAll_nil r1
  obtain rfl : args = #[v0, v1] := by cases args; simp_all
  obtain ⟨n0, rfl, rfl, rfl, wn0⟩ := open_int Try.underlying5 (hval 0 _ v0 rfl rfl) h0
  obtain ⟨s0, rfl, hs0⟩ := u8_nat wn0
  obtain ⟨A1, c1, l1, rfl, hat1, hlc1, hd1⟩ := open_bytes Try.underlying22 Try.underlying5 (by kernel_rfl) (hval 1 _ v1 rfl rfl) h1
  exact frameOwn_walk s0 A1 c1 l1 W hs0 hat1 hlc1 (bytes_reach hsz (j := 1) rfl rfl hlc1 hd1).2

set_option maxRecDepth 100000 in
theorem frameOwn_lifted (os : Os) (started : os.Started) (H : Type) (enc : TypeId × Value → H) :
    ReturnsInHanded {} Try.checked os 9 .any (Rows.frameOwnSpec.pre6 enc Try.prog Try.f9 Rows.frameOwnRow.domain false) (Rows.frameOwnSpec.post enc Try.prog Try.f9 false true false false) :=
  law_lifted (s := Rows.frameOwnSpec) started (by kernel_rfl) Try.func9 Try.underlying4 rfl rfl
    (by rw [Try.params9]; simp only [List.mem_cons, List.not_mem_nil, or_false, forall_eq_or_imp, forall_eq]; exact ⟨⟨by kernel_rfl, of_decide_eq_true (by kernel_rfl)⟩, ⟨by kernel_rfl, of_decide_eq_true (by kernel_rfl)⟩⟩)
    (fun H ds hl => by match ds, hl with | [_, _], _ => rfl)
    (ChangeSpec.witness6 (enc := enc) (C := Try.checked) false ⟨#[], #[.int .u8 0, .slice none 0 0], []⟩ 8 (by kernel_rfl) (by kernel_rfl) (by kernel_rfl) (by kernel_rfl)) frameOwn_law

theorem frameOwn_over : Rows.frameOwnRow.holds Try.pinned (OpenSpec.ofChange Rows.frameOwnSpec) :=
  OpenClaim.holds_of_wide 9 Try.f9 rfl rfl rfl rfl rfl rfl rfl ⟨rfl, rfl, rfl, rfl, rfl⟩ rfl rfl rfl rfl rfl (by kernel_rfl) Try.func9 (by kernel_rfl)
    (of_decide_eq_true (by kernel_rfl)) (by unfold Func.isWrapper; first | (rw [if_pos (by decide +kernel)]; kernel_rfl) | (rw [if_neg (by decide +kernel)]; exact ⟨rfl, rfl⟩))
    (fun os started H enc _ => frameOwn_lifted os started H enc)

theorem frameOwn_proved : Rows.FrameOwnSaid := frameOwn_over

end Go.Proofs.Ythhgcjdfmnceaaa
