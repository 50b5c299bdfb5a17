/- CrcBursts answers true at every input, and every argument reads afterwards as it did: 'crcBursts_proved'. Conditions: none but the statement's own. -/
import Derived.Test.YtekdfoncehbohaaCrcBurst0
import Derived.Test.YtekdfoncehbohaaCrcOwn
import Derived.Test.YtekdfoncehbohaaLaw
namespace Go.Proofs.Ytekdfoncehbohaa
open Go.RowKit Crc

theorem grown_drew {a w : World} {g : Nat} (h : a.grownBy w (some g)) : a.grownBy w.drew (some g) := ⟨h.os, h.tape, h.output, h.size, h.block⟩
theorem tmod_in (n : Int) (k : Nat) (hk : 0 < k) : n.tmod (k : Int) < k ∧ -(k : Int) < n.tmod (k : Int) := by
  have h1 := Int.tmod_lt_of_pos n (b := (k : Int)) (by omega)
  have h2 := Int.tmod_lt_of_pos (-n) (b := (k : Int)) (by omega)
  rw [Int.neg_tmod] at h2
  exact ⟨h1, by omega⟩

set_option maxHeartbeats 4000000 in
theorem crcBursts_walk (A : Option Addr) (c : Nat) (l : List UInt8) (n : Int) (m0 m1 m2 m3 : UInt8) (w : World) (h1 : At w w.heap.size 1 A l.length (l.map u8v)) (_hlc : l.length ≤ c) (hm : c ≤ 140737488351232)
    (_ha : -9223372036854775808 ≤ n) (_hb : n ≤ 9223372036854775807) :
    Calls Try.prog 7 #[.slice A l.length c, .int .i64 n, .agg #[u8v m0, u8v m1, u8v m2, u8v m3]] w fun e w' => e = .returned (.bool true) ∧ Below w.heap.size w w' := by
  obtain ⟨ms, hms⟩ : ∃ ms : List UInt8, ms = [m0, m1, m2, m3] := ⟨_, rfl⟩
  obtain ⟨w1, hw1⟩ : ∃ w1, w.alloc (.cells #[u8v m0, u8v m1, u8v m2, u8v m3] 34) = w1 := ⟨_, rfl⟩
  have hbox : w1.heap[w.heap.size]? = some (.cells #[u8v m0, u8v m1, u8v m2, u8v m3] 34 (0, 0)) := by rw [← hw1]; exact heap_alloc_new _ _
  have hmk : Hid (∀ (W : World) (j : Nat), Below (w.heap.size + 1) w1 W → j < 4 → W.cell? ⟨w.heap.size, j, none⟩ = some (.int .u8 ((ms.getD j 0).toNat : Int))) := by
    intro W j hW hj
    have hg := (hW.block w.heap.size (by omega)).trans hbox
    rw [cell_of_row _ _ _ _ _ _ hg, hms]
    match j, hj with
    | 0, _ => rfl
    | 1, _ => rfl
    | 2, _ => rfl
    | 3, _ => rfl
  have b1 : Below w.heap.size w w1 := by rw [← hw1]; exact (Below.refl _ w).alloc (Nat.le_refl _) _
  have s1 : w1.heap.size = w.heap.size + 1 := by rw [← hw1]; exact World.size_alloc _ _
  simp only [u8v] at hw1
  have HW := Lib.hid hw1
  clear hw1 hbox hms
  unfold u8v
  go_enter Try.func7, Try.ntmps7
  go_wp2_with fail
  rw [HW.out]
  refine (own_any A c w.heap.size l w1 (h1.below b1 (Nat.le_refl _)) (by omega)).mono ?_
  rintro e w2 ⟨v2, rfl, hown2, b2⟩
  have k2 := Below.trans b1 (b2.mono b1.size)
  obtain ⟨A2, c2, rfl, hc2, _, hat2⟩ := own_slice hown2
  clear hown2
  go_wp2_with fail
  refine (seal_any A2 c2 w2.heap.size l w2 hat2 (Nat.le_refl _) (by omega)).mono ?_
  rintro e w3 ⟨v3, rfl, hown3, b3⟩
  have k3 := k2.trans (b3.mono k2.size)
  have q3 : Below (w.heap.size + 1) w1 w3 := by
    have e2 := b2.size
    exact (b2.mono (by omega)).trans (b3.mono (by omega))
  clear hat2 HW
  have hlen := seal_len l
  have htold := burst_told (if 0 ≤ n then (n.tmod ((seal_ l).length : Int)).toNat else (seal_ l).length) ms l
  obtain ⟨p, hp⟩ : ∃ p, p = (if 0 ≤ n then (n.tmod ((seal_ l).length : Int)).toNat else (seal_ l).length) := ⟨_, rfl⟩
  rw [← hp] at htold
  have HT := Lib.hid htold
  obtain ⟨g3, c3, rfl, hg3, hg3'⟩ := hown3.form (by omega)
  obtain ⟨s, hs⟩ : ∃ s, s = seal_ l := ⟨_, rfl⟩
  have HS := Lib.hid hs
  rw [hlen] at hp hown3 ⊢
  rw [← hs] at hown3
  have hls : s.length = l.length + 4 := by rw [hs, hlen]
  rw [← hs] at HT
  clear htold hs hlen
  obtain ⟨htl, htg⟩ := tmod_in n (l.length + 4) (by omega)
  have htp : 0 ≤ n → 0 ≤ n.tmod ((l.length + 4 : Nat) : Int) := fun h => Int.tmod_nonneg _ h
  obtain ⟨r, hr⟩ : ∃ r, r = n.tmod ((l.length + 4 : Nat) : Int) := ⟨_, rfl⟩
  rw [← hr] at htl htg htp hp
  have hr' : n.tmod ((l.length : Int) + 4) = r := by rw [hr]; rfl
  clear hr
  have hown3' : w3.ownsRow w2.heap.size 5 1 (.slice (some ⟨g3, 0, none⟩) (l.length + 4) c3) (l.length + 4) ((burst p ms s 0).1.map u8v) := hown3
  have HB : Hid (burst p ms s 0 = ((burst p ms s 0).1, false)) := rfl
  have HL := Lib.hid hls
  clear hown3 hls
  go_wp2
  go_loopw [8, 9, 10] (fun ch i _ wr => ∃ (k : Nat) (t : List UInt8) (b : Bool), k ≤ 4 ∧ i = .int .i64 k ∧ ch = .bool b ∧ Hid (burst p ms s k = (t, b)) ∧ wr.ownsRow w2.heap.size 5 1 (.slice (some ⟨g3, 0, none⟩) (l.length + 4) c3) (l.length + 4) (t.map u8v) ∧ w3.grownBy wr (some g3)) (fun _ i _ _ => 4 - (intOf i).toNat)
  case atStart => exact ⟨0, _, false, by omega, rfl, rfl, HB, hown3', World.grownBy.refl _ _⟩
  case round =>
    obtain ⟨k, t, b, hk, rfl, rfl, HBk, hown, hg⟩ := hrel
    clear hown3' HB
    by_cases hlt : k < 4
    · have hbk : wr.cell? ⟨w.heap.size, k, none⟩ = some (.int .u8 ((ms.getD k 0).toNat : Int)) := hmk.out wr k (q3.grown hg (by have := q3.size; omega) (fun g e => by cases e; have := b2.size; omega)) hlt
      obtain ⟨m, hm'⟩ : ∃ m, m = ms.getD k 0 := ⟨_, rfl⟩
      rw [← hm'] at hbk
      by_cases hn : 0 ≤ n
      · obtain ⟨q, rfl⟩ : ∃ q : Nat, r = (q : Int) := ⟨r.toNat, by have := htp hn; omega⟩
        obtain rfl : p = q := by rw [hp, if_pos hn]; rfl
        clear hp htp htg
        by_cases hi : p + k < l.length + 4
        · by_cases hz : m = 0
          · have hz' : ((m.toNat : Int) != 0) = false := by rw [hz]; rfl
            have HN : Hid (burst p ms s (k + 1) = (t, b)) := by
              unfold burst
              rw [if_neg (by rw [← hm']; simp [hz])]
              exact HBk.out
            clear hm' hz HBk
            go_wp2
            go_roundw
            case rel => exact ⟨k + 1, t, b, by omega, by go_num, rfl, HN, hown, hg⟩
            case measure => simp [intOf]; omega
          · have hz' : ((m.toNat : Int) != 0) = true := by
              rw [bne_iff_ne]
              intro e
              exact hz (UInt8.toNat_inj.1 (show m.toNat = (0 : UInt8).toNat by simpa using e))
            have htlen : t.length = l.length + 4 := by
              have := burst_len p ms s k
              rw [HBk.out, HL.out] at this
              exact this
            have HN : Hid (burst p ms s (k + 1) = (t.set (p + k) (t.getD (p + k) 0 ^^^ m), true)) := by
              unfold burst
              rw [if_pos ⟨by rw [HL.out]; exact hi, by rw [← hm']; exact hz⟩, HBk.out, ← hm']
              rfl
            have hcell := hown.cellAt (p + k) (by omega)
            obtain ⟨x, hx⟩ : ∃ x, x = t.getD (p + k) 0 := ⟨_, rfl⟩
            rw [← hx] at HN
            have hx' : (t.map u8v)[p + k]? = some (.int .u8 (x.toNat : Int)) := by rw [u8v_map_get t (p + k) (by omega), hx]; simp [show p + k < t.length by omega]
            rw [hx'] at hcell
            have hfr := hown.frozenAt (p + k)
            have X := xor_u8 x m
            obtain ⟨y, hy⟩ : ∃ y, y = x ^^^ m := ⟨_, rfl⟩
            rw [← hy] at X HN
            have hst := (hown.stored (p + k) (u8v y)).1
            rw [← List.map_set] at hst
            have HST := Lib.hid hst
            clear hm' hz HBk hx hx' hy hst htlen
            have hP0 : 0 ≤ (p : Int) + k := by omega
            have hP1 : (p : Int) + k < (l.length : Int) + 4 := by omega
            have hP2 : ((p : Int) + k).toNat = p + k := by omega
            have hK0 : (k : Int) < 4 := by omega
            go_wp2
            go_region
            all_goals
              clear hP0 hP1 hP2 hK0
              go_wp2
              go_roundw
              case rel => exact ⟨k + 1, _, true, by omega, by go_num, rfl, HN, HST.out.drew, grown_set (grown_drew hg) _⟩
              case measure => simp [intOf]; omega
        · have HN : Hid (burst p ms s (k + 1) = (t, b)) := by
            unfold burst
            rw [if_neg (by rw [HL.out]; exact fun h => hi h.1)]
            exact HBk.out
          clear hm' HBk
          go_wp2
          go_roundw
          case rel => exact ⟨k + 1, t, b, by omega, by go_num, rfl, HN, hown, hg⟩
          case measure => simp [intOf]; omega
      · have HN : Hid (burst p ms s (k + 1) = (t, b)) := by
          unfold burst
          rw [if_neg (by rw [HL.out, hp, if_neg hn]; omega)]
          exact HBk.out
        clear hm' HBk hp
        go_wp2
        go_roundw
        case rel => exact ⟨k + 1, t, b, by omega, by go_num, rfl, HN, hown, hg⟩
        case measure => simp [intOf]; omega
    · obtain rfl : k = 4 := by omega
      have hT := HT.out
      rw [HBk.out] at hT
      have htl : t.length = l.length + 4 := by
        have := burst_len p ms s 4
        rw [HBk.out, HL.out] at this
        exact this
      have k5 : Below w.heap.size w wr := k3.grown hg k3.size (fun g e => by cases e; have := k2.size; omega)
      obtain ⟨A5, c5, h5, hc5, _, hat5⟩ := own_slice hown
      injection h5 with h5a h5b h5c
      subst h5a h5c
      have cs := open_any (some ⟨g3, 0, none⟩) c3 wr.heap.size t wr (by rw [htl]; exact hat5) (Nat.le_refl _) (by omega) (by omega)
      rw [htl] at cs
      have HC : Hid (Calls Try.prog 17 #[.slice (some ⟨g3, 0, none⟩) (l.length + 4) c3] wr fun e w' => ∃ v, e = .returned (.tuple #[v, .bool (!b)]) ∧ Below wr.heap.size wr w') := by
        refine cs.mono fun e w' ⟨v, he, _, hb⟩ => ⟨v, by rw [he, hT], hb⟩
      have hbb : ((!b) == !b) = true := by simp
      clear cs hat5 hown HT HBk hp
      go_wp2_with fail
      ((with_reducible refine HC.out.mono ?_); rintro e w6 ⟨v6, rfl, b6⟩)
      clear HC
      have k6 := bthen k5 b6
      go_wp2_with fail
      refine (known_any w6).mono ?_
      rintro e w7 ⟨rfl, b7⟩
      have k7 := bthen k6 b7
      go_wp2
      go_ret
      exact ⟨rfl, k7⟩

open Go.ChangeShapes in
/-- Four bytes by value. -/
theorem open_mask {H : Type} {enc : TypeId × Value → H} {P : Program} {W : World} {sp : Nat → Bool} {t e : TypeId} {v : Value} {d : DataW H} {ps : List MemPlace} {base : Nat} (hu : P.underlying t = some (.array 4 e)) (he : P.underlying e = some (.int .u8)) (hce : P.cellsOf e = 1) (hct : P.cellsOf t = 4)
    (hv : Value.okWide P W .any base t v) (h : DataW.Trod enc P W 0 sp true t v d ps) : ∃ m0 m1 m2 m3 : UInt8, v = .agg #[u8v m0, u8v m1, u8v m2, u8v m3] := by
  obtain ⟨cs, rfl, hsz, _⟩ : ∃ cs, v = .agg cs ∧ cs.size = P.cellsOf t ∧ Row.okWide P W .any base t cs := by
    simpa [Value.okWide, hu] using hv
  rw [hct] at hsz
  obtain ⟨l⟩ := cs
  obtain ⟨c0, c1, c2, c3, rfl⟩ : ∃ a b c d, l = [a, b, c, d] := by
    match l, hsz with
    | [a, b, c, d], _ => exact ⟨a, b, c, d, rfl⟩
  obtain ⟨fuel, hf⟩ := h
  obtain ⟨y0, y1, y2, y3, m, hx, hy0, hy1, hy2, hy3⟩ := trod_array4 hu hce hf
  obtain ⟨x0, e0, rfl, w0⟩ := DataW.trod_int he hy0
  obtain ⟨x1, e1, rfl, w1⟩ := DataW.trod_int he hy1
  obtain ⟨x2, e2, rfl, w2⟩ := DataW.trod_int he hy2
  obtain ⟨x3, e3, rfl, w3⟩ := DataW.trod_int he hy3
  simp at e0 e1 e2 e3
  subst e0 e1 e2 e3
  refine ⟨UInt8.ofNat x0.toNat, UInt8.ofNat x1.toNat, UInt8.ofNat x2.toNat, UInt8.ofNat x3.toNat, ?_⟩
  unfold u8v
  rw [u8_of_int w0, u8_of_int w1, u8_of_int w2, u8_of_int w3]

open Go.ChangeShapes Go.WideShapes in
open Go.ChangeMaps (open_string) in
theorem crcBursts_law : LawWalk Try.prog 7 Try.f7 := by
  intro H enc W base args ds p hval hA hsz
  rw [Try.params7] at hA hval hsz
  obtain ⟨v0, vs0, d0, ds0, p0, q0, hargs, rfl, rfl, h0, r0⟩ := trodAll_cons hA
  obtain ⟨v1, vs1, d1, ds1, p1, q1, rfl, rfl, rfl, h1, r1⟩ := trodAll_cons r0
  obtain ⟨v2, vs2, d2, ds2, p2, q2, rfl, rfl, rfl, h2, r2⟩ := trodAll_cons r1
  obtain ⟨rfl, rfl, rfl⟩ := trodAll_nil r2
  obtain rfl : args = #[v0, v1, v2] := by cases args; simp_all
  obtain ⟨A0, c0, l0, rfl, hat0, hlc0, hd0⟩ := open_bytes Try.underlying22 Try.underlying5 (by kernel_rfl) (hval 0 _ v0 rfl rfl) h0
  obtain ⟨n1, rfl, rfl, rfl, wn1⟩ := open_int Try.underlying3 (hval 1 _ v1 rfl rfl) h1
  obtain ⟨ha1, hb1⟩ := i64_in wn1
  obtain ⟨m0, m1, m2, m3, rfl⟩ := open_mask Try.underlying34 Try.underlying5 (by kernel_rfl) (by kernel_rfl) (hval 2 _ v2 rfl rfl) h2
  exact crcBursts_walk A0 c0 l0 n1 m0 m1 m2 m3 W hat0 hlc0 (bytes_reach hsz (j := 0) rfl rfl hlc0 hd0).2 ha1 hb1

set_option maxRecDepth 100000 in
theorem crcBursts_lifted (os : Os) (started : os.Started) (H : Type) (enc : TypeId × Value → H) :
    ReturnsInHanded {} Try.checked os 7 .any (Rows.crcBurstsSpec.pre6 enc Try.prog Try.f7 Rows.crcBurstsRow.domain false) (Rows.crcBurstsSpec.post enc Try.prog Try.f7 false true false false) :=
  law_lifted (s := Rows.crcBurstsSpec) started (by kernel_rfl) Try.func7 Try.underlying4 rfl rfl
    (by rw [Try.params7]; simp only [List.mem_cons, List.not_mem_nil, or_false, forall_eq_or_imp, forall_eq]; exact ⟨⟨by kernel_rfl, of_decide_eq_true (by kernel_rfl)⟩, ⟨by kernel_rfl, of_decide_eq_true (by kernel_rfl)⟩, ⟨by kernel_rfl, of_decide_eq_true (by kernel_rfl)⟩⟩)
    (fun H ds hl => by match ds, hl with | [_, _, _], _ => rfl)
    (ChangeSpec.witness6 (enc := enc) (C := Try.checked) false ⟨#[], #[.slice none 0 0, .int .i64 0, .agg #[.int .u8 0, .int .u8 0, .int .u8 0, .int .u8 0]], []⟩ 8 (by kernel_rfl) (by kernel_rfl) (by kernel_rfl) (by kernel_rfl)) crcBursts_law

theorem crcBursts_over : Rows.crcBurstsRow.holds Try.pinned (OpenSpec.ofChange Rows.crcBurstsSpec) :=
  OpenClaim.holds_of_wide 7 Try.f7 rfl rfl rfl rfl rfl rfl rfl ⟨rfl, rfl, rfl, rfl, rfl⟩ rfl rfl rfl rfl rfl (by kernel_rfl) Try.func7 (by kernel_rfl)
    (of_decide_eq_true (by kernel_rfl)) (by unfold Func.isWrapper; first | (rw [if_pos (by decide +kernel)]; kernel_rfl) | (rw [if_neg (by decide +kernel)]; exact ⟨rfl, rfl⟩))
    (fun os started H enc _ => crcBursts_lifted os started H enc)

theorem crcBursts_proved : Rows.CrcBurstsSaid := crcBursts_over

end Go.Proofs.Ytekdfoncehbohaa
