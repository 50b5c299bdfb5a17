import Derived.Test.YtgeefnmgejnemaaDoorUtfRunes
import Derived.Laws.IdiomStrings
import Derived.Laws.DeepBits32
namespace Go.Proofs.YtgeefnmgejnemaaDoor
open Go.RowKit Go.Shelf Utf
set_option linter.unusedSimpArgs false
set_option linter.unusedVariables false
namespace Utf
/-- A digit's number. -/
def hexD (c : Nat) : Option Nat := if 48 ≤ c ∧ c ≤ 57 then some (c - 48) else if 97 ≤ c ∧ c ≤ 102 then some (c - 87) else if 65 ≤ c ∧ c ≤ 70 then some (c - 55) else none
theorem hexD_lt {c d : Nat} (h : hexD c = some d) : d < 16 := by
  unfold hexD at h
  split at h
  · injection h with h; omega
  · split at h
    · injection h with h; omega
    · split at h
      · injection h with h; omega
      · cases h
def hexFold (acc : Nat) : List UInt8 → Option Nat
  | [] => some acc
  | c :: t => match hexD c.toNat with
    | some d => hexFold (acc * 16 + d) t
    | none => none
/-- The number of an escape of four digits that bytes begin with. -/
def fourL (l : List UInt8) : Option Nat := if l.length < 6 ∨ (l.getD 0 0).toNat ≠ 92 ∨ (l.getD 1 0).toNat ≠ 117 then none else hexFold 0 ((l.drop 2).take 4)
def fourV : Option Nat → Value
  | some n => .tuple #[.int .i32 (n : Int), .bool true]
  | none => .tuple #[.int .i32 0, .bool false]
theorem fourL_bad {l : List UInt8} (h : l.length < 6 ∨ (l.getD 0 0).toNat ≠ 92 ∨ (l.getD 1 0).toNat ≠ 117) : fourL l = none := if_pos h
theorem fourL_go {l : List UInt8} (h : ¬ (l.length < 6 ∨ (l.getD 0 0).toNat ≠ 92 ∨ (l.getD 1 0).toNat ≠ 117)) : fourL l = hexFold 0 ((l.drop 2).take 4) := if_neg h
end Utf
theorem bs_cut (l : List UInt8) : (bs l).extract 2 6 = bs ((l.drop 2).take 4) := eq_bs (by rw [Lib.extract_data, bs_data])
theorem or_hex (a d : Nat) (ha : a < 4096) (hd : d < 16) : bits BinOp.or .i32 ((a : Int) * 16) (d : Int) = ((a * 16 + d : Nat) : Int) := by
  show IntKind.i32.wrap ((BitVec.ofInt 32 ((a : Int) * 16) ||| BitVec.ofInt 32 (d : Int)).toNat : Int) = _
  have e : ((a : Int) * 16) = ((a * 16 : Nat) : Int) := by omega
  have h := Nat.two_pow_add_eq_or_of_lt (i := 4) (b := d) (by omega) a
  rw [e, BitVec.toNat_or, ofInt_u32 (a * 16) (by omega), ofInt_u32 d (by omega), show a * 16 = 2 ^ 4 * a by omega, ← h]
  exact wrap_i32_small _ (by omega) (by omega)
theorem hex_room {k a d : Nat} (h : (k = 0 ∧ a < 1) ∨ (k = 1 ∧ a < 16) ∨ (k = 2 ∧ a < 256) ∨ (k = 3 ∧ a < 4096) ∨ (k = 4 ∧ a < 65536)) (hk : k < 4) (hd : d < 16) :
    Hid ((k + 1 = 0 ∧ a * 16 + d < 1) ∨ (k + 1 = 1 ∧ a * 16 + d < 16) ∨ (k + 1 = 2 ∧ a * 16 + d < 256) ∨ (k + 1 = 3 ∧ a * 16 + d < 4096) ∨ (k + 1 = 4 ∧ a * 16 + d < 65536)) := by
  show _ ∨ _
  omega
theorem str_nm (l : List UInt8) : ∃ s : ByteArray, s = bs l ∧ s.size = l.length ∧ ∀ (j : Nat) (h : j < s.size), ((s[j]'h).toNat : Int) = ((l.getD j 0).toNat : Int) :=
  ⟨bs l, rfl, bs_size l, fun j h => bs_get l j h⟩
set_option maxRecDepth 100000 in
set_option maxHeartbeats 2000000 in
theorem four_short (s : ByteArray) (w : World) (h : s.size < 6) :
    Calls Tryd.prog 40 #[.string s] w fun e w' => e = .returned (fourV none) ∧ w' = w := by
  have h6' : (s.size : Int) < 6 := by omega
  go_enter Tryd.func40, Tryd.ntmps40
  go_wp2
  go_ret2
  exact ⟨rfl, rfl⟩
set_option maxRecDepth 100000 in
set_option maxHeartbeats 2000000 in
theorem four_b0 (s : ByteArray) (w : World) (h : 6 ≤ s.size) (k0 : 0 < s.size) (a : Int) (g0 : ((s[0]'k0).toNat : Int) = a) (h1' : (a == 92) = false) :
    Calls Tryd.prog 40 #[.string s] w fun e w' => e = .returned (fourV none) ∧ w' = w := by
  have h6' : ¬ (s.size : Int) < 6 := by omega
  go_enter Tryd.func40, Tryd.ntmps40
  go_wp2
  go_ret2
  exact ⟨rfl, rfl⟩
set_option maxRecDepth 100000 in
set_option maxHeartbeats 2000000 in
theorem four_b1 (s : ByteArray) (w : World) (h : 6 ≤ s.size) (k0 : 0 < s.size) (k1 : 1 < s.size) (g0 : ((s[0]'k0).toNat : Int) = 92) (a : Int) (g1 : ((s[1]'k1).toNat : Int) = a) (h1' : (a == 117) = false) :
    Calls Tryd.prog 40 #[.string s] w fun e w' => e = .returned (fourV none) ∧ w' = w := by
  have h6' : ¬ (s.size : Int) < 6 := by omega
  go_enter Tryd.func40, Tryd.ntmps40
  go_wp2
  go_ret2
  exact ⟨rfl, rfl⟩
set_option maxRecDepth 100000 in
set_option maxHeartbeats 2000000 in
theorem four_go (l : List UInt8) (s : ByteArray) (w : World) (h : 6 ≤ s.size) (k0 : 0 < s.size) (k1 : 1 < s.size) (g0 : ((s[0]'k0).toNat : Int) = 92) (g1 : ((s[1]'k1).toNat : Int) = 117) (t : ByteArray) (ht : s.extract 2 6 = t) (hts : t.size = 4) (htl : t = bs l) (hl : l.length = 4) :
    Calls Tryd.prog 40 #[.string s] w fun e w' => e = .returned (fourV (hexFold 0 l)) ∧ Below w.heap.size w w' := by
  have h6' : ¬ (s.size : Int) < 6 := by omega
  have HT := Lib.hid htl
  have hcv := run_bytes_of_string (P := Tryd.prog) w 9 53 5 t Tryd.underlying9 Tryd.underlying53 Tryd.underlying5
  obtain ⟨cap, hcap⟩ : ∃ cap, grownCap w t.size 0 5 = cap := ⟨_, rfl⟩
  rw [hcap] at hcv
  obtain ⟨W1, hW1⟩ : ∃ W1, w.drew.alloc (.cells (bytesRow t cap) 5 ((bytesRow t cap).size, (bytesRow t cap).size + 1)) = W1 := ⟨_, rfl⟩
  rw [hW1, hts] at hcv
  have B1 : Below w.heap.size w W1 := by rw [← hW1]; exact (Below.refl _ w).drew.alloc (Nat.le_refl _) _
  have hc : ∀ V, Below (w.heap.size + 1) W1 V → ∀ j, j < 4 → V.cell? ⟨w.heap.size, j, none⟩ = some (.int .u8 ((l.getD j 0).toNat : Int)) := fun V hV j hj => by
    have h0 : W1.heap[w.heap.size]? = some (.cells (bytesRow t cap) 5 ((bytesRow t cap).size, (bytesRow t cap).size + 1)) := by rw [← hW1]; exact World.alloc_heap_new w.drew _
    have hj2 : j < t.data.size := by show j < t.size; omega
    rw [cell_of_row V _ j _ _ _ ((hV.block _ (by omega)).trans h0), bytesRow_at t cap j hj2]
    have := bs_get l j (by rw [bs_size]; omega)
    subst htl
    rw [← this]; rfl
  have HC := Lib.hid hc
  clear htl hc hcap hW1
  go_enter Tryd.func40, Tryd.ntmps40
  go_wp2
  go_loopw [4, 24] (fun rv iv wr => wr = W1 ∧ ∃ k acc : Nat, k ≤ 4 ∧ iv = .int .i64 k ∧ rv = .int .i32 acc ∧ Hid (hexFold 0 l = hexFold acc (l.drop k)) ∧ Hid ((k = 0 ∧ acc < 1) ∨ (k = 1 ∧ acc < 16) ∨ (k = 2 ∧ acc < 256) ∨ (k = 3 ∧ acc < 4096) ∨ (k = 4 ∧ acc < 65536)))
    (fun rv iv _ => 4 - (intOf iv).toNat)
  case atStart => exact ⟨rfl, 0, 0, by omega, rfl, rfl, rfl, .inl ⟨rfl, by omega⟩⟩
  case round =>
    obtain ⟨rfl, k, acc, hk, rfl, rfl, HI, HB⟩ := hrel
    by_cases hlt : k < 4
    · obtain ⟨c, hc⟩ : ∃ c, c = (l.getD k 0).toNat := ⟨_, rfl⟩
      have hld := HC.out _ (Below.refl _ _) k hlt
      rw [← hc] at hld
      have hst : l.drop k = l.getD k 0 :: l.drop (k + 1) := by
        rw [List.getD_eq_getElem?_getD, List.getElem?_eq_getElem (show k < l.length by omega)]
        exact List.drop_eq_getElem_cons (by omega)
      have hI := HI.out
      rw [hst] at hI
      have hlt' : (k : Int) < 4 := by omega
      have hc8 : c < 256 := by rw [hc]; exact (l.getD k 0).toNat_lt
      have ha4 : acc < 4096 := by have := HB.out; omega
      have ha4' : (acc : Int) < 4096 := by omega
      by_cases c1 : 48 ≤ c ∧ c ≤ 57
      · have hd : hexD c = some (c - 48) := by unfold hexD; rw [if_pos c1]
        have hN : hexFold 0 l = hexFold (acc * 16 + (c - 48)) (l.drop (k + 1)) := by
          rw [hI, hexFold, ← hc, hd]
        have HN := Lib.hid hN
        have e1 : (48 : Int) ≤ c := by omega
        have e2 : (c : Int) ≤ 57 := by omega
        have hor := or_hex acc (c - 48) ha4 (by omega)
        clear hN hI hst hd hc HI
        go_wp2
        refine ⟨⟨trivial, k + 1, acc * 16 + (c - 48), by omega, rfl, ?_, HN, hex_room HB.out hlt (by omega)⟩, by simp [intOf]; omega⟩
        rw [← hor]
        congr 2 <;> omega
      by_cases c2 : 97 ≤ c ∧ c ≤ 102
      · have hd : hexD c = some (c - 87) := by unfold hexD; rw [if_neg c1, if_pos c2]
        have hN : hexFold 0 l = hexFold (acc * 16 + (c - 87)) (l.drop (k + 1)) := by
          rw [hI, hexFold, ← hc, hd]
        have HN := Lib.hid hN
        have e1 : (97 : Int) ≤ c := by omega
        have e2 : (c : Int) ≤ 102 := by omega
        have e3 : ¬ (c : Int) ≤ 57 := by omega
        have e4 : (48 : Int) ≤ c := by omega
        have hor := or_hex acc (c - 87) ha4 (by omega)
        clear hN hI hst hd hc HI
        go_wp2
        refine ⟨⟨trivial, k + 1, acc * 16 + (c - 87), by omega, rfl, ?_, HN, hex_room HB.out hlt (by omega)⟩, by simp [intOf]; omega⟩
        rw [← hor]
        congr 2 <;> omega
      by_cases c3 : 65 ≤ c ∧ c ≤ 70
      · have hd : hexD c = some (c - 55) := by unfold hexD; rw [if_neg c1, if_neg c2, if_pos c3]
        have hN : hexFold 0 l = hexFold (acc * 16 + (c - 55)) (l.drop (k + 1)) := by
          rw [hI, hexFold, ← hc, hd]
        have HN := Lib.hid hN
        have e1 : (65 : Int) ≤ c := by omega
        have e2 : (c : Int) ≤ 70 := by omega
        have e3 : ¬ (c : Int) ≤ 57 := by omega
        have e4 : (48 : Int) ≤ c := by omega
        have e5 : ¬ (97 : Int) ≤ c := by omega
        have hor := or_hex acc (c - 55) ha4 (by omega)
        clear hN hI hst hd hc HI
        go_wp2
        refine ⟨⟨trivial, k + 1, acc * 16 + (c - 55), by omega, rfl, ?_, HN, hex_room HB.out hlt (by omega)⟩, by simp [intOf]; omega⟩
        rw [← hor]
        congr 2 <;> omega
      · have hd : hexD c = none := by unfold hexD; rw [if_neg c1, if_neg c2, if_neg c3]
        have hN : hexFold 0 l = none := by rw [hI, hexFold, ← hc, hd]
        have HN := Lib.hid hN
        clear hN hI hst hd hc HI
        by_cases d1 : c < 48
        · have e1 : ¬ (48 : Int) ≤ c := by omega
          have e2 : ¬ (97 : Int) ≤ c := by omega
          have e3 : ¬ (65 : Int) ≤ c := by omega
          clear c1 c2 c3
          go_wp2
          go_ret2
          exact ⟨by rw [HN.out]; rfl, B1⟩
        · have e0 : (48 : Int) ≤ c := by omega
          have e0' : ¬ (c : Int) ≤ 57 := by omega
          by_cases d2 : c < 65
          · have e2 : ¬ (97 : Int) ≤ c := by omega
            have e3 : ¬ (65 : Int) ≤ c := by omega
            clear c1 c2 c3
            go_wp2
            go_ret2
            exact ⟨by rw [HN.out]; rfl, B1⟩
          · have e3 : (65 : Int) ≤ c := by omega
            have e3' : ¬ (c : Int) ≤ 70 := by omega
            by_cases d3 : c < 97
            · have e2 : ¬ (97 : Int) ≤ c := by omega
              clear c1 c2 c3
              go_wp2
              go_ret2
              exact ⟨by rw [HN.out]; rfl, B1⟩
            · have e2 : (97 : Int) ≤ c := by omega
              have e2' : ¬ (c : Int) ≤ 102 := by omega
              clear c1 c2 c3
              go_wp2
              go_ret2
              exact ⟨by rw [HN.out]; rfl, B1⟩
    · have hlt' : ¬ (k : Int) < 4 := by omega
      have hN : hexFold 0 l = some acc := by
        rw [HI.out, List.drop_eq_nil_of_le (by omega)]; rfl
      have HN := Lib.hid hN
      clear hN HI
      go_wp2
      go_ret2
      exact ⟨by rw [HN.out]; rfl, B1⟩
theorem four_any (l : List UInt8) (w : World) (hs : l.length ≤ 1125899906842624) :
    Calls Tryd.prog 40 #[.string (bs l)] w fun e w' => e = .returned (fourV (fourL l)) ∧ Below w.heap.size w w' := by
  have hz := bs_size l
  have bad : Calls Tryd.prog 40 #[.string (bs l)] w (fun e w' => e = .returned (fourV none) ∧ w' = w) → fourL l = none → Calls Tryd.prog 40 #[.string (bs l)] w fun e w' => e = .returned (fourV (fourL l)) ∧ Below w.heap.size w w' := fun h e => by
    refine h.mono ?_
    rintro e' w' ⟨rfl, rfl⟩
    exact ⟨by rw [e], Below.refl _ _⟩
  by_cases h6 : l.length < 6
  · exact bad (four_short (bs l) w (by omega)) (fourL_bad (.inl h6))
  have k0 : 0 < (bs l).size := by omega
  have k1 : 1 < (bs l).size := by omega
  have g0 := bs_get l 0 k0
  have g1 := bs_get l 1 k1
  by_cases h0 : (l.getD 0 0).toNat = 92
  · by_cases h1 : (l.getD 1 0).toNat = 117
    · rw [fourL_go (by omega)]
      exact four_go ((l.drop 2).take 4) (bs l) w (by omega) k0 k1 (by rw [g0, h0]; rfl) (by rw [g1, h1]; rfl) _ rfl (by rw [ByteArray.size_extract]; omega) (by rw [bs_cut]) (by rw [List.length_take, List.length_drop]; omega)
    · exact bad (four_b1 (bs l) w (by omega) k0 k1 (by rw [g0, h0]; rfl) _ g1 (by rw [beq_eq_false_iff_ne]; omega)) (fourL_bad (.inr (.inr h1)))
  · exact bad (four_b0 (bs l) w (by omega) k0 _ g0 (by rw [beq_eq_false_iff_ne]; omega)) (fourL_bad (.inr (.inl h0)))
end Go.Proofs.YtgeefnmgejnemaaDoor
