/- CrcOwn answers true at every input, and every argument reads afterwards as it did: 'crcOwn_proved'. Conditions: none but the statement's own. -/
import Derived.Test.YtekdfoncehbohaaCrcBack
import Derived.Laws.CopyOwn
namespace Go.Proofs.Ytekdfoncehbohaa
open Go.RowKit Crc

theorem info1_u8 : (Try.prog.info? 5).map (·.size) = some 1 := by kernel_rfl
theorem grown_set {a w : World} {g i : Nat} (h : a.grownBy w (some g)) (u : Value) : a.grownBy (w.setCell ⟨g, i, none⟩ u) (some g) :=
  ⟨h.os, h.tape, h.output, by simpa [World.setCell] using h.size, fun k hk hne => (Below.heap_setCell w _ u k (fun e => hne (by rw [e]))).trans (h.block k hk hne)⟩

/-- A row of bytes, with sixteen noughts behind. -/
def Row16 (w : World) (g n : Nat) : Prop :=
  ∃ C : Array Value, w.heap[g]? = some (.cells C 5 (0, 0)) ∧ C.size = n + 16 ∧ (∀ j, j < n → ∃ x : Int, C[j]? = some (.int .u8 x)) ∧ ∀ j, n ≤ j → j < n + 16 → C[j]? = some (.int .u8 0)
theorem Row16.cell {w : World} {g n j : Nat} (h : Row16 w g n) (hj : j < n) : (∃ x : Int, w.cell? ⟨g, j, none⟩ = some (.int .u8 x)) ∧ w.frozen? ⟨g, j, none⟩ = false := by
  obtain ⟨C, hg, _, h1, _⟩ := h
  obtain ⟨x, hx⟩ := h1 j hj
  exact ⟨⟨x, by rw [cell_of_row _ _ _ _ _ _ hg]; exact hx⟩, frozen_of_row _ _ _ _ _ hg⟩
theorem Row16.spare {w : World} {g n j : Nat} (h : Row16 w g n) (hj : j < 16) : w.cell? ⟨g, n + j, none⟩ = some (.int .u8 0) := by
  obtain ⟨C, hg, _, _, h2⟩ := h
  rw [cell_of_row _ _ _ _ _ _ hg]
  exact h2 _ (by omega) (by omega)
theorem Row16.set {w : World} {g n j : Nat} (h : Row16 w g n) (hj : j < n) (x : Int) : Row16 (w.setCell ⟨g, j, none⟩ (.int .u8 x)) g n := by
  obtain ⟨C, hg, hs, h1, h2⟩ := h
  refine ⟨C.setIfInBounds j (.int .u8 x), heap_setCell_same _ _ _ _ _ _ hg, by simpa using hs, fun i hi => ?_, fun i hi hi2 => ?_⟩
  · by_cases e : j = i
    · subst e; exact ⟨x, by rw [Array.getElem?_setIfInBounds_self_of_lt (by omega)]⟩
    · rw [Array.getElem?_setIfInBounds_ne e]; exact h1 i hi
  · rw [Array.getElem?_setIfInBounds_ne (by omega)]; exact h2 i hi hi2

set_option maxHeartbeats 4000000 in
theorem crcOwn_walk (A : Option Addr) (c : Nat) (l : List UInt8) (w : World) (h1 : At w w.heap.size 1 A l.length (l.map u8v)) (_hlc : l.length ≤ c) (hm : c ≤ 140737488351232) :
    Calls Try.prog 9 #[.slice A l.length c] w fun e w' => e = .returned (.bool true) ∧ Below w.heap.size w w' := by
  obtain ⟨i0, hi, hz0, hz1, hz2⟩ := info_parts info_u8
  obtain ⟨n, hn⟩ : ∃ n, n = l.length := ⟨_, rfl⟩
  have hmk : ∀ W : World, (Instr.makeSlice 22 (.int .i64 (n : Int)) (.int .i64 ((n : Int) + 16))).run Try.prog W = .ok (.slice (some ⟨W.heap.size, 0, none⟩) n (n + 16)) (W.alloc (.cells (Array.replicate (n + 16) (.int .u8 0)) 5)) := fun W => by
    have hr := run_make (P := Try.prog) W 22 5 i0 (.int .u8 0) Try.underlying22 hi hz0 .i64 .i64 n ((n : Int) + 16) (by omega) (by omega) (by rw [hz2]; omega) (by omega)
    rw [hr, hz1, Int.toNat_natCast, show ((n : Int) + 16).toNat = n + 16 from by omega, Nat.mul_one]
    congr 3
    apply Array.ext_getElem?
    intro j
    by_cases hj : j < n + 16 <;> simp [madeCells, Value.cells, hj, Nat.mod_one]
  rw [← hn] at h1 ⊢
  have hnm : n ≤ 140737488351232 := by omega
  have HN := Lib.hid hn
  clear hn
  have hnn : Nat.min n n = n := Nat.min_self n
  have hgz : (w.alloc (.cells (Array.replicate (n + 16) (.int .u8 0)) 5)).heap[w.heap.size]? = some (.cells (List.replicate (n + 16) (.int .u8 0)).toArray 5 (0, 0)) := by rw [List.toArray_replicate]; exact heap_alloc_new _ _
  have Hgz := Lib.hid hgz
  have Hnn := Lib.hid hnn
  clear hgz
  have hcs : (l.map u8v).length = Nat.min n n := by rw [List.length_map, HN.out]; exact (Nat.min_self _).symm
  have Hcs := Lib.hid hcs
  have hpos : Hid (0 < (l.map u8v).length → (some ⟨w.heap.size, 0, none⟩ : Option Addr) = some ⟨w.heap.size, 0, none⟩ ∧ ∃ ad, A = some ad ∧ ∀ j v, (l.map u8v)[j]? = some v → (w.alloc (.cells (Array.replicate (n + 16) (.int .u8 0)) 5)).cell? (ad.add j) = some v) := by
    intro hp
    rw [hcs, hnn] at hp
    obtain ⟨b, o, e, hb, hr⟩ := h1.2 hp
    exact ⟨rfl, _, e, fun j v hv => by rw [Addr.add_mid, World.cell?_alloc_lt _ _ _ hb]; exact hr j v hv⟩
  clear hcs hnn
  go_enter Try.func9, Try.ntmps9
  go_wp2_with ((with_reducible refine wpList_copy_splice rfl (.tmp 18) (.tmp 19) 22 22 rfl 5 Try.underlying22 info1_u8 _ _ n (n + 16) n c rfl rfl w.heap.size 0 (List.replicate (n + 16) (.int .u8 0)) 5 Hgz.out (l.map u8v) Hcs.out hpos.out (by rw [Hcs.out, Hnn.out, List.length_replicate]; omega) (one_u8 l) w.heap.size w ((Below.refl _ w).alloc (Nat.le_refl _) _) (Nat.le_refl _) ?_); intro w1 hg1 b1)
  clear hmk hpos
  have hrow : w1.heap[w.heap.size]? = some (.cells (l.map u8v ++ List.replicate 16 (Value.int .u8 0)).toArray 5 (0, 0)) := by
    have := hg1.out
    rw [show splice (List.replicate (n + 16) (Value.int .u8 0)) 0 (l.map u8v) = l.map u8v ++ List.replicate 16 (Value.int .u8 0) from by
      unfold splice
      rw [List.take_zero, List.nil_append, Nat.zero_add, List.drop_replicate, List.length_map, ← HN.out, show n + 16 - n = 16 from by omega]] at this
    exact this
  have hR : Row16 w1 w.heap.size n := by
    refine ⟨_, hrow, by simp [← HN.out], fun j hj => ?_, fun j hj hj2 => ?_⟩
    · exact ⟨_, by rw [List.getElem?_toArray, List.getElem?_append_left (by rw [List.length_map, ← HN.out]; exact hj), u8v_map_get l j (by rw [← HN.out]; exact hj)]⟩
    · rw [List.getElem?_toArray, List.getElem?_append_right (by rw [List.length_map, ← HN.out]; exact hj), List.getElem?_replicate, if_pos (by rw [List.length_map, ← HN.out]; omega)]
  have hx : At w1 w1.heap.size 1 (some ⟨w.heap.size, 0, none⟩) n (l.map u8v) := by
    refine ⟨by rw [List.length_map, ← HN.out, Nat.mul_one], fun _ => ⟨_, _, rfl, (Array.getElem?_eq_some_iff.1 hrow).1, fun j u hu => ?_⟩⟩
    rw [cell_of_row _ _ _ _ _ _ hrow, Nat.zero_add, List.getElem?_toArray, List.getElem?_append_left (List.getElem?_eq_some_iff.1 hu).1]
    exact hu
  have cs := seal_any (some ⟨w.heap.size, 0, none⟩) (n + 16) w1.heap.size l w1 (by rw [← HN.out]; exact hx) (Nat.le_refl _) (by rw [← HN.out]; omega)
  rw [← HN.out] at cs
  have HC := Lib.hid cs
  clear cs hrow hx hg1
  refine HC.out.mono ?_
  rintro e w2 ⟨v2, rfl, hown2, b2⟩
  clear HC
  have k2 := b1.trans (b2.mono b1.size)
  have hR2 : Row16 w2 w.heap.size n := by
    obtain ⟨C, hg, r⟩ := hR
    exact ⟨C, (b2.block _ (Array.getElem?_eq_some_iff.1 hg).1).trans hg, r⟩
  have hg1 : w.heap.size < w1.heap.size := by obtain ⟨C, hg, r⟩ := hR; exact (Array.getElem?_eq_some_iff.1 hg).1
  clear hR
  have hne : v2.ownBlock = none ∨ v2.ownBlock ≠ some w.heap.size := .inr (fun e => by have := (hown2.lt _ e).1; omega)
  obtain ⟨A2, c2, rfl, hc2, _, _⟩ := own_slice hown2
  have Hne := Lib.hid hne
  have HL := Lib.hid (seal_len l)
  clear hne
  go_wp2
  go_loopw [5] (fun i wr => ∃ k : Nat, k ≤ n ∧ i = .int .i64 k ∧ Row16 wr w.heap.size n ∧ w2.grownBy wr (some w.heap.size)) (fun i _ => n - (intOf i).toNat)
  case atStart => exact ⟨0, Nat.zero_le _, rfl, hR2, World.grownBy.refl _ _⟩
  case round =>
    obtain ⟨k, hk, rfl, hRr, hgr⟩ := hrel
    clear hR2
    by_cases hlt : k < n
    · obtain ⟨⟨x, hx⟩, hf⟩ := hRr.cell hlt
      go_wp2
      go_roundw
      case rel => exact ⟨k + 1, by omega, by go_num, hRr.set hlt _, grown_set hgr _⟩
      case measure => simp [intOf]; omega
    · obtain rfl : k = n := by omega
      obtain ⟨wo, rfl⟩ : ∃ wo : World, wo = wr := ⟨_, rfl⟩
      have hkk := Lib.hid hRr
      have ho2 := hown2.kept hgr Hne.out
      have k3 : Below w.heap.size w wo := k2.grown hgr k2.size (fun g e => by cases e; exact Nat.le_refl _)
      clear hRr hgr hown2 hlt hk
      go_wp2
      go_loop [44] (fun i => ∃ j : Nat, j ≤ 16 ∧ i = .int .i64 j) (fun i => 16 - (intOf i).toNat)
      case atStart => exact ⟨0, by omega, rfl⟩
      case round =>
        obtain ⟨j, hj, rfl⟩ := hrel
        by_cases hlt : j < 16
        · have hcj := hkk.out.spare hlt
          go_wp2
          go_round
          case rel => exact ⟨j + 1, by omega, by go_num⟩
          case measure => simp [intOf]; omega
        · have hj16 : j = 16 := by omega
          clear hj
          subst hj16
          have S2 : (seal_ l == seal_ l) = true := by simp
          have S0 : (l == l) = true := by simp
          have hat2 := At.of_own ho2
          go_wp2_with fail
          refine (own_any A2 c2 wo.heap.size (seal_ l) wo hat2 (by rw [HL.out]; have := HN.out; omega)).mono ?_
          rintro e w4 ⟨v4, rfl, hown4, b4⟩
          have k4 := bthen k3 b4
          obtain ⟨A4, c4, rfl, hc4, _, hat4⟩ := own_slice hown4
          have cs := open_any A4 c4 w4.heap.size (seal_ l) w4 hat4 (Nat.le_refl _) hc4 (by rw [HL.out]; have := HN.out; omega)
          have HC : Hid (Calls Try.prog 17 #[.slice A4 (seal_ l).length c4] w4 fun e w' => ∃ v, e = .returned (.tuple #[v, .bool true]) ∧ w'.ownsRow w4.heap.size 5 1 v l.length (l.map u8v) ∧ Below w4.heap.size w4 w') := by
            refine cs.mono fun e w' ⟨v, he, ho, hb⟩ => ⟨v, by rw [he, sealed_seal], by rw [opened_seal] at ho; exact ho, hb⟩
          clear cs hat2 hat4
          go_wp2_with fail
          refine HC.out.mono ?_
          rintro e w5 ⟨v5, rfl, hown5, b5⟩
          clear HC
          have k5 := bthen k4 b5
          obtain ⟨A5, c5, rfl, hc5, _, _⟩ := own_slice hown5
          obtain ⟨g4, hA4⟩ : ∃ g4, A4 = some ⟨g4, 0, none⟩ ∧ wo.heap.size ≤ g4 ∧ g4 < w4.heap.size := by
            obtain ⟨g, cap, hv, h1, h2⟩ := hown4.form (by rw [HL.out]; omega)
            injection hv with hv
            exact ⟨g, hv, h1, h2⟩
          obtain ⟨rfl, hg4a, hg4b⟩ := hA4
          have hown4' := own_below hown4 b5 (Nat.le_refl _)
          have hint : Hid (∀ j, j < (seal_ l).length → ∃ x : Int, ((seal_ l).map u8v)[j]? = some (.int .u8 x)) := fun j hj => ⟨_, u8v_map_get _ j hj⟩
          have hlm : (seal_ l).length ≤ 140737488351236 := by rw [HL.out]; have := HN.out; omega
          clear hown4
          go_wp2
          go_loopw [11] (fun i wx => ∃ (k : Nat) (zs : List Value), k ≤ (seal_ l).length ∧ i = .int .i64 k ∧ wx.ownsRow wo.heap.size 5 1 (.slice (some ⟨g4, 0, none⟩) (seal_ l).length c4) (seal_ l).length zs ∧ Hid (∀ j, j < (seal_ l).length → ∃ x : Int, zs[j]? = some (.int .u8 x)) ∧ w5.grownBy wx (some g4)) (fun i _ => (seal_ l).length - (intOf i).toNat)
          case atStart => exact ⟨0, _, Nat.zero_le _, rfl, hown4', hint, World.grownBy.refl _ _⟩
          case round =>
            obtain ⟨j, zs, hj, rfl, hown6, hzs, hg6⟩ := hrel
            clear hown4' hint
            by_cases hlt6 : j < (seal_ l).length
            · obtain ⟨x, hx⟩ := hzs.out j hlt6
              have hcell := hown6.cellAt j (by omega)
              rw [hx] at hcell
              have hfr := hown6.frozenAt j
              have hst := fun u => (hown6.stored j u).1
              have HST := Lib.hid hst
              have hz' : Hid (∀ y : Int, ∀ i, i < (seal_ l).length → ∃ x : Int, (zs.set j (.int .u8 y))[i]? = some (.int .u8 x)) := by
                intro y i hi
                rw [List.getElem?_set]
                split
                · rename_i e; subst e
                  rw [if_pos (List.getElem?_eq_some_iff.1 hx).1]
                  exact ⟨_, rfl⟩
                · exact hzs.out i hi
              clear hst hzs hx
              go_wp2
              go_roundw
              case rel => exact ⟨j + 1, _, by omega, by go_num, HST.out _, hz'.out _, grown_set hg6 _⟩
              case measure => simp [intOf]; omega
            · have k6 : Below w.heap.size w wr := k5.grown hg6 k5.size (fun g e => by cases e; have := k3.size; omega)
              have n2 : (Value.slice A2 (seal_ l).length c2).ownBlock = none ∨ (Value.slice A2 (seal_ l).length c2).ownBlock ≠ some g4 := .inr (fun e => by have := (ho2.lt _ e).2; omega)
              have hs6 := ((own_below ho2 (bthen b4 b5) (Nat.le_refl _)).kept hg6 n2)
              have n5 : (Value.slice A5 l.length c5).ownBlock = none ∨ (Value.slice A5 l.length c5).ownBlock ≠ some g4 := .inr (fun e => by have := (hown5.lt _ e).1; omega)
              have ho6 := hown5.kept hg6 n5
              clear hown6 hzs hown5 hg6
              have cs := refSeal_any A c w.heap.size l wr (by rw [← HN.out]; exact h1.below k6 (Nat.le_refl _)) k6.size (by have := HN.out; omega)
              rw [← HN.out] at cs
              have HC := Lib.hid cs
              clear cs
              go_wp2_with fail
              ((with_reducible refine HC.out.mono ?_); rintro e w7 ⟨v7, rfl, hown7, b7⟩)
              clear HC
              have k7 := bthen k6 b7
              obtain ⟨A7, c7, rfl, hc7, _, hat7⟩ := own_slice hown7
              have hs7 := At.of_own (own_below hs6 b7 (Nat.le_refl _))
              have ho7 := At.of_own (own_below ho6 b7 (Nat.le_refl _))
              have cs := same_any A2 A7 c2 c7 w7.heap.size (seal_ l) (seal_ l) w7 hs7 hat7 (by rw [HL.out]; have := HN.out; omega)
              rw [S2] at cs
              have HC := Lib.hid cs
              have H7 := Lib.hid ho7
              clear cs hs7 hat7 hs6 ho6 hown7 ho7 ho2
              go_wp2_with fail
              ((with_reducible refine HC.out.mono ?_); rintro e w8 ⟨rfl, d8⟩)
              clear HC
              have k8 := bthen k7 (d8.below _)
              have cs := same_any A5 A c5 c w8.heap.size l l w8 (H7.out.then (d8.below _)) (by rw [← HN.out]; exact (h1.arg k8)) (by have := HN.out; omega)
              rw [S0, show Value.slice A l.length c = Value.slice A k c from by rw [HN.out]] at cs
              have HC := Lib.hid cs
              clear cs H7
              go_wp2_with fail
              ((with_reducible refine HC.out.mono ?_); rintro e w9 ⟨rfl, d9⟩)
              clear HC
              have k9 := bthen k8 (d9.below _)
              go_wp2_with fail
              refine (known_any w9).mono ?_
              rintro e w10 ⟨rfl, b10⟩
              have k10 := bthen k9 b10
              go_wp2
              go_ret
              exact ⟨rfl, k10⟩

open Go.ChangeShapes Go.WideShapes in
open Go.ChangeMaps (open_string) in
theorem crcOwn_law : LawWalk Try.prog 9 Try.f9 := by
  intro H enc W base args ds p hval hA hsz
  rw [Try.params9] at hA hval hsz
  obtain ⟨v0, vs0, d0, ds0, p0, q0, hargs, rfl, rfl, h0, r0⟩ := trodAll_cons hA
  obtain ⟨rfl, rfl, rfl⟩ := trodAll_nil r0
  obtain rfl : args = #[v0] := by cases args; simp_all
  obtain ⟨A0, c0, l0, rfl, hat0, hlc0, hd0⟩ := open_bytes Try.underlying22 Try.underlying5 (by kernel_rfl) (hval 0 _ v0 rfl rfl) h0
  exact crcOwn_walk A0 c0 l0 W hat0 hlc0 (bytes_reach hsz (j := 0) rfl rfl hlc0 hd0).2

set_option maxRecDepth 100000 in
theorem crcOwn_lifted (os : Os) (started : os.Started) (H : Type) (enc : TypeId × Value → H) :
    ReturnsInHanded {} Try.checked os 9 .any (Rows.crcOwnSpec.pre6 enc Try.prog Try.f9 Rows.crcOwnRow.domain false) (Rows.crcOwnSpec.post enc Try.prog Try.f9 false true false false) :=
  law_lifted (s := Rows.crcOwnSpec) started (by kernel_rfl) Try.func9 Try.underlying4 rfl rfl
    (by rw [Try.params9]; simp only [List.mem_cons, List.not_mem_nil, or_false, forall_eq]; exact ⟨by kernel_rfl, of_decide_eq_true (by kernel_rfl)⟩)
    (fun H ds hl => by match ds, hl with | [_], _ => rfl)
    (ChangeSpec.witness6 (enc := enc) (C := Try.checked) false ⟨#[], #[.slice none 0 0], []⟩ 8 (by kernel_rfl) (by kernel_rfl) (by kernel_rfl) (by kernel_rfl)) crcOwn_law

theorem crcOwn_over : Rows.crcOwnRow.holds Try.pinned (OpenSpec.ofChange Rows.crcOwnSpec) :=
  OpenClaim.holds_of_wide 9 Try.f9 rfl rfl rfl rfl rfl rfl rfl ⟨rfl, rfl, rfl, rfl, rfl⟩ rfl rfl rfl rfl rfl (by kernel_rfl) Try.func9 (by kernel_rfl)
    (of_decide_eq_true (by kernel_rfl)) (by unfold Func.isWrapper; first | (rw [if_pos (by decide +kernel)]; kernel_rfl) | (rw [if_neg (by decide +kernel)]; exact ⟨rfl, rfl⟩))
    (fun os started H enc _ => crcOwn_lifted os started H enc)

theorem crcOwn_proved : Rows.CrcOwnSaid := crcOwn_over

end Go.Proofs.Ytekdfoncehbohaa
