/- NetOrder answers true at every input, and every argument reads afterwards as it did: 'netOrder_proved'. Conditions: none but the statement's own. -/
import Derived.Test.YtponmokiogdejaaNetWant
import Derived.Test.YtponmokiogdejaaNetTells
namespace Go.Proofs.Ytponmokiogdejaa
open Go.RowKit
set_option linter.unusedSimpArgs false
set_option linter.unusedVariables false

theorem wn_new (w : World) : Wn w w.heap.size [] (.slice none 0 0) [] (w.alloc (.cells #[.slice none 0 0] 27)) := by
  obtain ⟨M, h1, h2, h3⟩ := st_new (w := w)
  exact ⟨M, h1, h2, h3, World.ownsRow_nil _ _ _ _, fun k hk => by simp [Value.ownBlock] at hk⟩
/-- Letters that rise, in a net, and to whom they go, in a row. -/
def WO (w : World) (m : Nat) (L : List Let) (v : Value) (W : World) : Prop := Wn w w.heap.size L v L W ∧ OrdL m L
/-- What is read of a letter that was told. -/
theorem told_cells {w : World} {lo : Nat} {A : Option Addr} {c : Nat} {xs : List Value} {L : List Let} {m : Nat} (hown : w.ownsRow lo 47 3 (.slice A L.length c) L.length xs) (hr : RowsO 3 (LetW w (Span lo w.heap.size (Value.slice A L.length c).ownBlock)) xs L) (ho : OrdL m L) (j : Nat) (hj : j < L.length) :
    ∃ g a oa ca, A = some ⟨g, 0, none⟩ ∧ w.cell? ⟨g, j * 3, none⟩ = some (.int .u64 (L[j].to : Int)) ∧ w.cell? ⟨g, j * 3 + 1, none⟩ = some (.slice (some ⟨a, oa, none⟩) 1 ca) ∧ w.cell? ⟨a, oa, none⟩ = some (.int .u8 ((L[j].fr.getD 0 0).toNat : Int)) := by
  obtain ⟨g, ds, e, _, _, hc, _, ⟨A', c', rfl, _, _, _, hF⟩, _⟩ := own_parts hown hr j L[j] (List.getElem?_eq_getElem hj)
  have h1 := (ho.2 L[j] (List.getElem_mem hj)).1
  obtain ⟨a, oa, rfl, _, hf⟩ := hF (by omega)
  have e0 := hc 0 _ rfl
  have e1 := hc 1 _ rfl
  have e2 := hf 0 (by omega)
  rw [h1] at e1
  simp only [Nat.zero_add, Nat.add_zero] at e0 e1 e2
  exact ⟨g, a, oa, c', e, e0, e1, e2⟩

set_option maxRecDepth 100000 in
set_option maxHeartbeats 16000000 in
theorem netOrder_walk (A1 : Option Addr) (c1 : Nat) (l : List Int) (A2 : Option Addr) (c2 : Nat) (d : List Int) (w : World) (h1 : At w w.heap.size 1 A1 l.length (l.map fun z => .int .u64 z)) (hw1 : ∀ z ∈ l, (Lit.int .u64 z).wf = true)
    (h2 : At w w.heap.size 1 A2 d.length (d.map fun z => .int .i64 z)) (hw2 : ∀ z ∈ d, (Lit.int .i64 z).wf = true) :
    Calls Try.prog 4 #[.slice A1 l.length c1, .slice A2 d.length c2] w fun e w' => e = .returned (.bool true) ∧ Below w.heap.size w w' := by
  obtain ⟨i0, hi, hz0, hz1, hz2⟩ := info_parts info_u64
  have CK := Lib.hid fun W => nknown_any W
  by_cases hA : 60 < l.length
  · clear h1 h2 hw1 hw2
    go_enter Try.func4, Try.ntmps4
    go_wp2_with fail
    ((with_reducible refine (CK.out _).mono ?_); rintro e w1 ⟨rfl, b1⟩)
    go_wp2
    go_ret
    exact ⟨rfl, b1⟩
  by_cases hB : 60 < d.length
  · clear h1 h2 hw1 hw2
    go_enter Try.func4, Try.ntmps4
    go_wp2_with fail
    ((with_reducible refine (CK.out _).mono ?_); rintro e w1 ⟨rfl, b1⟩)
    go_wp2
    go_ret
    exact ⟨rfl, b1⟩
  have la : l.length ≤ 60 := by omega
  have lb : d.length ≤ 60 := by omega
  clear hA hB
  have HA := Lib.hid h1
  have HB := Lib.hid h2
  have HW1 := Lib.hid hw1
  have HW2 := Lib.hid hw2
  clear h1 h2 hw1 hw2
  obtain ⟨wa, hwa⟩ : ∃ wa, w.alloc (.cells #[.slice none 0 0] 27) = wa := ⟨_, rfl⟩
  have s0 : WO w 0 [] (.slice none 0 0) wa := ⟨by rw [← hwa]; exact wn_new w, List.Pairwise.nil, fun x hx => by simp at hx⟩
  go_enter Try.func4, Try.ntmps4
  go_wp2
  clear hwa
  go_loopw [6, 7] (fun v i wr => ∃ (j : Nat) (L : List Let), j ≤ l.length ∧ i = .int .i64 j ∧ Hid (L.length = j) ∧ Hid (WO w j L v wr)) (fun _ i _ => l.length - (intOf i).toNat)
  case atStart => exact ⟨0, [], Nat.zero_le _, rfl, rfl, s0⟩
  case round =>
    obtain ⟨j, L, hj, rfl, HL, HO⟩ := hrel
    clear s0
    by_cases hlt : j < l.length
    · obtain ⟨b, o, rfl, hb, hc⟩ := HA.out.intK hlt
      obtain ⟨tw, htw, ht⟩ := u64_nat (HW1.out _ (List.getElem_mem hlt))
      rw [show l.getD j 0 = (tw : Int) by rw [← htw]; simp [List.getD, hlt]] at hc
      have HCW := Lib.hid fun W (hW : Below w.heap.size w W) => (hW.cell (p := ⟨b, o + j, none⟩) hb).trans hc
      have hc := HCW.out wr HO.out.1.bel
      clear htw
      have hL : L.length ≤ 60 := by have := HL.out; omega
      have z := HO.out.1.bel.size
      obtain ⟨A', c', rfl, hcap, _, _⟩ := own_slice HO.out.1.own
      obtain ⟨wb, hwb⟩ : ∃ wb, wr.alloc (.cells #[.int .u8 (j : Int)] 5) = wb := ⟨_, rfl⟩
      have l1 : Below wr.heap.size wr wb := by rw [← hwb]; exact (Below.refl _ _).alloc (Nat.le_refl _) _
      have hat : At wb wb.heap.size 1 (some ⟨wr.heap.size, 0, none⟩) 1 (([UInt8.ofNat j] : List UInt8).map u8v) := by
        rw [← hwb]
        have e : u8v (UInt8.ofNat j) = .int .u8 (j : Int) := by unfold u8v; rw [UInt8.toNat_ofNat']; congr 2; omega
        have := (At.new wr [.int .u8 (j : Int)] 5 1 1 rfl).more (B' := (wr.alloc (.cells #[.int .u8 (j : Int)] 5)).heap.size) (by simp)
        rw [List.map_cons, e]
        exact this
      have C1 := (show Calls Try.prog 14 #[.pointer (some ⟨w.heap.size, 0, none⟩), .int .u64 (tw : Int), .slice (some ⟨wr.heap.size, 0, none⟩) 1 1] wb _ from send_wn (HO.out.1.then l1) tw [UInt8.ofNat j] _ 1 (by omega) hat (by simp) ht)
      have HS := Lib.hid (HO.out.2.snoc tw (m := j) (by omega))
      have HC := Lib.hid C1
      clear hat C1 l1
      go_wp2_with fail
      clear hwb
      ((with_reducible refine HC.out.mono ?_); rintro e w2 ⟨rfl, s2⟩)
      have hown := s2.own
      have z2 := s2.bel.size
      have hc2 := HCW.out w2 s2.bel
      have ho2 := hown.alloc (.cells #[.int .u64 (tw : Int)] 33)
      have S2 := Lib.hid s2
      have HT := Lib.hid (tosV_snoc L ⟨tw, [UInt8.ofNat j], false⟩)
      clear s2 hown hc HC
      go_wp2_with (at_builtin; refine wpList_append_from _ rfl _ _ 41 rfl w.heap.size 33 i0 (.int .u64 0) 1 8 Try.underlying41 hi hz0 hz1 hz2 rfl (by decide) _ L.length (tosV L) rfl ho2 (w2.heap.size + 1) (some ⟨w2.heap.size, 0, none⟩) 1 1 [.int .u64 (tw : Int)] rfl (At.new w2 _ _ 1 1 rfl) (by simp [Value.oneCell']) (by unfold maxLen; omega) (by omega) (by simp; omega) ?_; intro v' w5 hown5 hg hat)
      have HF : Hid (WO w (j + 1) (L ++ [⟨tw, [UInt8.ofNat j], false⟩]) v' w5) := ⟨(S2.out.then ((Below.refl _ w2).alloc (Nat.le_refl _) _)).want hg (by rw [HT.out, List.length_append]; exact hown5) hat, HS.out⟩
      have HL2 : Hid ((L ++ [⟨tw, [UInt8.ofNat j], false⟩] : List Let).length = j + 1) := by rw [Hid, List.length_append, HL.out]; rfl
      clear hown5 hg hat ho2 S2 HS HO HL
      go_roundw
      case rel => exact ⟨j + 1, _, by omega, by go_num, HL2, HF⟩
      case measure => simp [intOf]; omega
    · have hj2 : j = l.length := by omega
      have hL : L.length ≤ 60 := by have := HL.out; omega
      have HO1 := Lib.hid HO.out
      rw [hj2] at HO1
      clear HO HL hj2 HA HW1
      go_wp2
      go_loopw [6, 8] (fun v i wr => ∃ (j : Nat) (L : List Let), j ≤ d.length ∧ i = .int .i64 j ∧ L.length ≤ 60 ∧ Hid (WO w l.length L v wr)) (fun _ i _ => d.length - (intOf i).toNat)
      case atStart => exact ⟨0, L, Nat.zero_le _, rfl, hL, HO1⟩
      case round =>
        obtain ⟨j, L, hj, rfl, hL, HO⟩ := hrel
        clear HO1
        by_cases hlt : j < d.length
        · obtain ⟨b, o, rfl, hb, hc0⟩ := HB.out.intK hlt
          obtain ⟨z, hz⟩ : ∃ z, z = d.getD j 0 := ⟨_, rfl⟩
          have hzb := i64_in (HW2.out _ (List.getElem_mem hlt))
          rw [show d[j] = z by rw [hz]; simp [List.getD, hlt]] at hzb
          rw [← hz] at hc0
          have hc := (HO.out.1.bel.cell (p := ⟨b, o + j, none⟩) hb).trans hc0
          clear hc0 hz
          obtain ⟨A', c', rfl, hcap, hcm, _⟩ := own_slice HO.out.1.own
          by_cases hk : z < 0 ∨ (L.length : Int) ≤ z
          · have HC := Lib.hid (dropOut_wn HO.out.1 z hk)
            have HD := Lib.hid HO.out.2
            clear HO
            rcases hk with hk | hk
            · go_wp2_with fail
              ((with_reducible refine HC.out.mono ?_); rintro e w2 ⟨rfl, s2⟩)
              have HN : Hid (WO w l.length L _ w2) := ⟨s2, HD.out⟩
              clear s2 HC
              go_wp2
              go_roundw
              case rel => exact ⟨j + 1, L, by omega, by go_num, hL, HN⟩
              case measure => simp [intOf]; omega
            · have hk0 : ¬ z < 0 := by omega
              go_wp2_with fail
              ((with_reducible refine HC.out.mono ?_); rintro e w2 ⟨rfl, s2⟩)
              have HN : Hid (WO w l.length L _ w2) := ⟨s2, HD.out⟩
              clear s2 HC
              go_wp2
              go_roundw
              case rel => exact ⟨j + 1, L, by omega, by go_num, hL, HN⟩
              case measure => simp [intOf]; omega
          · obtain ⟨k, rfl⟩ : ∃ k : Nat, z = (k : Int) := ⟨z.toNat, by omega⟩
            have hk1 : k < L.length := by omega
            have HC := Lib.hid (drop_wn HO.out.1 k hk1 (by omega))
            have HD := Lib.hid (HO.out.2.erase k)
            clear HO hk
            go_wp2_with fail
            ((with_reducible refine HC.out.mono ?_); rintro e w2 ⟨rfl, s2⟩)
            clear HC
            obtain ⟨A6, c6, h6, _, _, hat⟩ := own_slice s2.own
            injection h6 with h61 h62 h63
            subst h61 h63
            clear h62
            have S2 := Lib.hid s2
            have HAT := Lib.hid hat
            obtain ⟨g6, o6, rfl, hg6, hcells⟩ := hat.2 (by omega)
            clear s2 hat hcells
            have z2 := S2.out.bel.size
            have k6 : k ≤ c' := by omega
            have k7 : k + 1 ≤ L.length := by omega
            have k8 : (k : Int) + 1 ≤ L.length := by omega
            have kA : (k : Int) ≤ (k : Int) + 1 := by omega
            have k9 : (0 : Int) ≤ (k : Int) + 1 := by omega
            have hs1 : IntKind.i64.wrap ((k : Int) + 1) = ((k + 1 : Nat) : Int) := by rw [IntKind.wrap_i64] <;> omega
            by_cases hck : c' = k + 1
            · obtain rfl := hck
              have HDROP : Hid (∀ W, w2.grownBy W none → At W w2.heap.size 1 (some ⟨g6, o6, none⟩) (L.length - (k + 1)) ((tosV L).drop (k + 1))) := fun W hW => by
                have e : L.length - (k + 1) = 0 := by omega
                rw [e, List.drop_eq_nil_of_le (by rw [tosV_len]; omega)]
                exact At.nil _ _ _ _
              go_wp2_with fail
              go_region_law (first
                | (refine step_append_from _ (by rfl) _ (.tmp 74) 41 (by rfl) w2.heap.size 33 i0 (.int .u64 0) 1 8 Try.underlying41 hi hz0 hz1 hz2 rfl (by decide) (.slice none 0 0) 0 [] (by simp [Act.eval, Act.put]) (World.ownsRow_nil _ _ _ _) w2.heap.size (some ⟨g6, o6, none⟩) k (k + 1) ((tosV L).take k) (by simp [Act.eval, Act.put]) (by have := HAT.out.take (k := k) (cap := k + 1) (by omega) (by omega); rw [Nat.mul_one] at this; exact this) (fun u hu => one_tos L u (List.mem_of_mem_take hu)) (by unfold maxLen; omega) (by omega) (Nat.le_refl _) ?_; intro v5 w5 hown5 hg5 hat5; have hg5 : w2.grownBy w5 none := ⟨hg5.os, hg5.tape, hg5.output, hg5.size, hg5.block⟩)
                | (refine step_append_from _ (by rfl) (.tmp 75) (.tmp 79) 41 (by rfl) w2.heap.size 33 i0 (.int .u64 0) 1 8 Try.underlying41 hi hz0 hz1 hz2 rfl (by decide) v5 (0 + k) _ (by simp [Act.eval, Act.put]) hown5 w2.heap.size (some ⟨g6, o6, none⟩) (L.length - (k + 1)) (k + 1 - (k + 1)) ((tosV L).drop (k + 1)) (by simp [Act.eval, Act.put] <;> omega) (HDROP.out w5 hg5) (fun u hu => one_tos L u (List.mem_of_mem_drop hu)) (by unfold maxLen; omega) (by omega) (by have := hg5.size; exact this) ?_; intro v8 w8 hown8 hg8 hat8))
              all_goals
                have HF : Hid (WO w l.length (L.eraseIdx k) v8 w8) := by
                  refine ⟨S2.out.fresh ((grown_below (World.ownsRow_nil w2 w2.heap.size 33 1) (show w2.grownBy w5 (Value.slice none 0 0).ownBlock from hg5) (Nat.le_refl _)).trans (grown_below hown5 hg8 hg5.size)) ?_, HD.out⟩
                  rw [tosV_erase, List.length_eraseIdx, if_pos hk1]
                  have := hown8
                  rw [show 0 + k + (L.length - (k + 1)) = L.length - 1 by omega, List.nil_append] at this
                  exact this
                have hE : (L.eraseIdx k).length ≤ 60 := by rw [List.length_eraseIdx, if_pos hk1]; omega
                clear hown5 hown8 hg5 hg8 hat5 hat8 HDROP HAT S2 HD
                go_wp2
                go_roundw
                case rel => exact ⟨j + 1, _, by omega, by go_num, hE, HF⟩
                case measure => simp [intOf]; omega
            · have HDROP : Hid (∀ W, w2.grownBy W none → At W w2.heap.size 1 (some ⟨g6, o6 + (k + 1), none⟩) (L.length - (k + 1)) ((tosV L).drop (k + 1))) := fun W hW => by
                have := HAT.out.drop (k := k + 1) (cap := c') (by omega) (by omega)
                rw [Nat.mul_one, if_neg hck, Option.map_some, Addr.add_mid] at this
                exact this.keep fun p hp => World.cell?_of_block (hW.block p.block hp (by simp))
              go_wp2_with fail
              go_region_law (first
                | (refine step_append_from _ (by rfl) _ (.tmp 74) 41 (by rfl) w2.heap.size 33 i0 (.int .u64 0) 1 8 Try.underlying41 hi hz0 hz1 hz2 rfl (by decide) (.slice none 0 0) 0 [] (by simp [Act.eval, Act.put]) (World.ownsRow_nil _ _ _ _) w2.heap.size (some ⟨g6, o6, none⟩) k c' ((tosV L).take k) (by simp [Act.eval, Act.put]) (by have := HAT.out.take (k := k) (cap := c') (by omega) (by omega); rw [Nat.mul_one] at this; exact this) (fun u hu => one_tos L u (List.mem_of_mem_take hu)) (by unfold maxLen; omega) (by omega) (Nat.le_refl _) ?_; intro v5 w5 hown5 hg5 hat5; have hg5 : w2.grownBy w5 none := ⟨hg5.os, hg5.tape, hg5.output, hg5.size, hg5.block⟩)
                | (refine step_append_from _ (by rfl) (.tmp 75) (.tmp 79) 41 (by rfl) w2.heap.size 33 i0 (.int .u64 0) 1 8 Try.underlying41 hi hz0 hz1 hz2 rfl (by decide) v5 (0 + k) _ (by simp [Act.eval, Act.put]) hown5 w2.heap.size (some ⟨g6, o6 + (k + 1), none⟩) (L.length - (k + 1)) (c' - (k + 1)) ((tosV L).drop (k + 1)) (by simp [Act.eval, Act.put]) (HDROP.out w5 hg5) (fun u hu => one_tos L u (List.mem_of_mem_drop hu)) (by unfold maxLen; omega) (by omega) (by have := hg5.size; exact this) ?_; intro v8 w8 hown8 hg8 hat8))
              all_goals
                have HF : Hid (WO w l.length (L.eraseIdx k) v8 w8) := by
                  refine ⟨S2.out.fresh ((grown_below (World.ownsRow_nil w2 w2.heap.size 33 1) (show w2.grownBy w5 (Value.slice none 0 0).ownBlock from hg5) (Nat.le_refl _)).trans (grown_below hown5 hg8 hg5.size)) ?_, HD.out⟩
                  rw [tosV_erase, List.length_eraseIdx, if_pos hk1]
                  have := hown8
                  rw [show 0 + k + (L.length - (k + 1)) = L.length - 1 by omega, List.nil_append] at this
                  exact this
                have hE : (L.eraseIdx k).length ≤ 60 := by rw [List.length_eraseIdx, if_pos hk1]; omega
                clear hown5 hown8 hg5 hg8 hat5 hat8 HDROP HAT S2 HD
                go_wp2
                go_roundw
                case rel => exact ⟨j + 1, _, by omega, by go_num, hE, HF⟩
                case measure => simp [intOf]; omega
        · clear HB HW2
          have b0 := HO.out.1.bel
          have CA := Lib.hid (show Calls Try.prog 13 #[.pointer (some ⟨w.heap.size, 0, none⟩)] wr (AllO wr L) from all_any _ _ L wr HO.out.1.choose_spec.1 (by omega))
          go_wp2_with fail
          ((with_reducible refine CA.out.mono ?_); rintro e w7 ⟨v7, xs, rfl, hown7, hrow7, b7⟩)
          obtain ⟨A7, c7, rfl, _, _, _⟩ := own_slice hown7
          have ho6 := own_below HO.out.1.own b7 (Nat.le_refl _)
          obtain ⟨A6, c6, h6, _, _, hat6⟩ := own_slice ho6
          obtain rfl := h6
          have HT := Lib.hid fun j hj => told_cells hown7 hrow7 HO.out.2 j hj
          have HR := Lib.hid HO.out.2
          have H6 := Lib.hid hat6
          have B7 := Lib.hid (bthen b0 b7)
          clear hown7 hrow7 ho6 hat6 b7 b0 HO CA
          go_wp2
          go_loopw [12] (fun i wr => ∃ j : Nat, j ≤ L.length ∧ i = .int .i64 j ∧ Dr w7 wr) (fun i _ => L.length - (intOf i).toNat)
          case atStart => exact ⟨0, Nat.zero_le _, rfl, Dr.refl _⟩
          case round =>
            obtain ⟨j, hj, rfl, q, rfl⟩ := hrel
            by_cases hlt3 : j < L.length
            · obtain ⟨g, a, oa, ca, rfl, e0, e1, e2⟩ := HT.out j hlt3
              obtain ⟨b6, o6, u6', rfl, _, hu6, hc6⟩ := H6.out.at1 hlt3
              have hu : u6' = .int .u64 (L[j].to : Int) := by
                unfold tosV at hu6
                rw [List.getElem?_map, List.getElem?_eq_getElem hlt3] at hu6
                injection hu6 with hu6
                exact hu6.symm
              subst hu
              have ne0 : (((L[j].to : Nat) : Int) != ((L[j].to : Nat) : Int)) = false := by simp
              clear hu6
              by_cases hj0 : j = 0
              · subst hj0
                simp only [Nat.zero_mul, Nat.add_zero, Nat.zero_add] at e0 e1 hc6
                go_wp2
                go_quiet (fail)
                go_wp2
                go_roundw
                case rel => exact ⟨1, by omega, by go_num, (by first | exact Dr.refl _ | exact Dr.one _ _ | exact Dr.two _ _ _)⟩
                case measure => simp [intOf]; omega
              · obtain ⟨m, rfl⟩ : ∃ m, j = m + 1 := ⟨j - 1, by omega⟩
                obtain ⟨g', a', oa', ca', hg', _, e1', e2'⟩ := HT.out m (by omega)
                injection hg' with hg'
                injection hg' with hg' _ _
                subst hg'
                have hxy := HR.out.lt hlt3
                obtain ⟨x, hx⟩ : ∃ x, x = (L[m + 1].fr.getD 0 0).toNat := ⟨_, rfl⟩
                obtain ⟨y, hy⟩ : ∃ y, y = ((L[m]'(by omega)).fr.getD 0 0).toNat := ⟨_, rfl⟩
                rw [← hx] at e2 hxy
                rw [← hy] at e2' hxy
                have hle : decide (x ≤ y) = false := by simp only [decide_eq_false_iff_not]; omega
                have hle2 : ¬ x ≤ y := by omega
                clear hx hy
                have p1 : (0 : Int) < ((m + 1 : Nat) : Int) := by omega
                have p2 : ((m + 1 : Nat) : Int) - 1 = (m : Int) := by omega
                have p3 : (m : Int) < (L.length : Int) := by omega
                have p4 : IntKind.i64.wrap (((m + 1 : Nat) : Int) - 1) = (m : Int) := by rw [IntKind.wrap_i64] <;> omega
                clear HR HT H6 hj0
                go_wp2
                go_quiet (fail)
                go_wp2
                go_roundw
                clear p4 p2 p1 hle
                first | done | case rel => exact ⟨m + 1 + 1, by omega, by go_num, (by first | exact Dr.refl _ | exact Dr.one _ _ | exact Dr.two _ _ _)⟩
                first | done | case measure => simp [intOf]; omega
                first | done | exact ⟨⟨m + 1 + 1, by omega, by go_num, (by first | exact Dr.refl _ | exact Dr.one _ _ | exact Dr.two _ _ _)⟩, by simp [intOf]; omega⟩
            · go_wp2_with fail
              ((with_reducible refine (CK.out _).mono ?_); rintro e w8 ⟨rfl, b8⟩)
              go_wp2
              go_ret
              exact ⟨rfl, bthen (Below.drewN' B7.out _) b8⟩

open Go.ChangeShapes Go.WideShapes in
open Go.ChangeMaps (open_string) in
theorem netOrder_law : LawWalk Try.prog 4 Try.f4 := by
  intro H enc W base args ds p hval hA hsz
  rw [Try.params4] at hA hval hsz
  obtain ⟨v0, vs0, d0, ds0, p0, q0, hargs, rfl, rfl, h0, r0⟩ := trodAll_cons hA
  obtain ⟨v1, vs1, d1, ds1, p1, q1, rfl, rfl, rfl, h1, r1⟩ := trodAll_cons r0
  obtain ⟨rfl, rfl, rfl⟩ := trodAll_nil r1
  obtain rfl : args = #[v0, v1] := by cases args; simp_all
  obtain ⟨A0, c0, l0, rfl, hat0, _, hw0⟩ := open_intsK Try.underlying41 Try.underlying33 (by kernel_rfl) (hval 0 _ v0 rfl rfl) h0
  obtain ⟨A1, c1, l1, rfl, hat1, _, hw1⟩ := open_intsK Try.underlying42 Try.underlying3 (by kernel_rfl) (hval 1 _ v1 rfl rfl) h1
  exact netOrder_walk A0 c0 l0 A1 c1 l1 W hat0 hw0 hat1 hw1

set_option maxRecDepth 100000 in
theorem netOrder_lifted (os : Os) (started : os.Started) (H : Type) (enc : TypeId × Value → H) :
    ReturnsInHanded {} Try.checked os 4 .any (Rows.netOrderSpec.pre6 enc Try.prog Try.f4 Rows.netOrderRow.domain false) (Rows.netOrderSpec.post enc Try.prog Try.f4 false true false false) :=
  law_lifted (s := Rows.netOrderSpec) started (by kernel_rfl) Try.func4 Try.underlying4 rfl rfl
    (by rw [Try.params4]; simp only [List.mem_cons, List.not_mem_nil, or_false, forall_eq_or_imp, forall_eq]; exact ⟨⟨by kernel_rfl, of_decide_eq_true (by kernel_rfl)⟩, ⟨by kernel_rfl, of_decide_eq_true (by kernel_rfl)⟩⟩)
    (fun H ds hl => by match ds, hl with | [_, _], _ => rfl)
    (ChangeSpec.witness6 (enc := enc) (C := Try.checked) false ⟨#[], #[.slice none 0 0, .slice none 0 0], []⟩ 8 (by kernel_rfl) (by kernel_rfl) (by kernel_rfl) (by kernel_rfl)) netOrder_law

theorem netOrder_over : Rows.netOrderRow.holds Try.pinned (OpenSpec.ofChange Rows.netOrderSpec) :=
  OpenClaim.holds_of_wide 4 Try.f4 rfl rfl rfl rfl rfl rfl rfl ⟨rfl, rfl, rfl, rfl, rfl⟩ rfl rfl rfl rfl rfl (by kernel_rfl) Try.func4 (by kernel_rfl)
    (of_decide_eq_true (by kernel_rfl)) (by unfold Func.isWrapper; first | (rw [if_pos (by decide +kernel)]; kernel_rfl) | (rw [if_neg (by decide +kernel)]; exact ⟨rfl, rfl⟩))
    (fun os started H enc _ => netOrder_lifted os started H enc)

theorem netOrder_proved : Rows.NetOrderSaid := netOrder_over

end Go.Proofs.Ytponmokiogdejaa
