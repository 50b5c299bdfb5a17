/- Versions put one by one: just the last ones are kept. -/
import Derived.Test.YtkdlfgfjahnhmaaLogPick
namespace Go.Proofs.Ytkdlfgfjahnhmaa
open Go.RowKit
set_option linter.unusedSimpArgs false
set_option linter.unusedVariables false
/-- A log beside something that stays. -/
structure LK (w : World) (g r b n : Nat) (o : Obj) (ring : Nat → Option Addr) (newest count : Nat) (W : World) : Prop where
  lg : LG W g r n ring newest count
  row : W.heap[b]? = some o
  bel : Below w.heap.size w W
  low : w.heap.size ≤ g ∧ w.heap.size ≤ r ∧ b ≠ g ∧ b ≠ r
section
variable {w W W' : World} {g r b n : Nat} {o : Obj} {ring ring' : Nat → Option Addr} {newest count newest' count' : Nat}
theorem LK.then (h : LK w g r b n o ring newest count W) (hb : Below W.heap.size W W') : LK w g r b n o ring newest count W' :=
  ⟨h.lg.then hb, (hb.block b (Array.getElem?_eq_some_iff.1 h.row).1).trans h.row, h.bel.trans (hb.mono h.bel.size), h.low⟩
theorem LK.put (h : LK w g r b n o ring newest count W) (h1 : LG W' g r n ring' newest' count') (h2 : Only2 g r W W') : LK w g r b n o ring' newest' count' W' :=
  ⟨h1, (h2.1 b (Array.getElem?_eq_some_iff.1 h.row).1 h.low.2.2.1 h.low.2.2.2).trans h.row, h.bel.trans (h2.below h.bel.size h.low.1 h.low.2.1), h.low⟩
end
theorem mod_ne {a b k : Nat} (h1 : a < b) (h2 : b < a + k) : a % k ≠ b % k := by
  intro e
  have e1 := Nat.div_add_mod a k
  have e2 := Nat.div_add_mod b k
  have : k * (b / k) = k * (a / k) + (b - a) := by omega
  have hd : k ∣ (b - a) := ⟨b / k - a / k, by rw [Nat.mul_sub]; omega⟩
  have := Nat.le_of_dvd (by omega) hd
  omega
/-- So many were put: the last ones are there. -/
def St (w : World) (g r b k f p1 p2 p3 p4 : Nat) (o : Obj) (i : Nat) (W : World) : Prop :=
  ∃ ring newest count, LK w g r b k o ring newest count W ∧ count = min i k ∧ (0 < i → newest + 1 = f + i) ∧ ∀ j, j < i → i ≤ j + k → ring ((f + j) % k) = TR p1 p2 p3 p4 (j % 5)
section
variable {w W W' : World} {g r b k f p1 p2 p3 p4 i : Nat} {o : Obj}
theorem St.then (h : St w g r b k f p1 p2 p3 p4 o i W) (hb : Below W.heap.size W W') : St w g r b k f p1 p2 p3 p4 o i W' := by
  obtain ⟨ring, newest, count, h1, h2⟩ := h
  exact ⟨ring, newest, count, h1.then hb, h2⟩
theorem St.row (h : St w g r b k f p1 p2 p3 p4 o i W) : W.heap[b]? = some o := by
  obtain ⟨ring, newest, count, h1, h2⟩ := h
  exact h1.row
theorem St.bel (h : St w g r b k f p1 p2 p3 p4 o i W) : Below w.heap.size w W := by
  obtain ⟨ring, newest, count, h1, h2⟩ := h
  exact h1.bel
theorem St.put (h : St w g r b k f p1 p2 p3 p4 o i W) (hi : i ≤ 200) (hf : f ≤ 4611686018427387603) :
    Calls Try.prog 13 #[.pointer (some ⟨g, 0, none⟩), .int .u64 ((f + i : Nat) : Int), .agg #[.pointer (TR p1 p2 p3 p4 (i % 5)), .nilFunc]] W fun e W' => e = .returned (.int .i64 0) ∧ St w g r b k f p1 p2 p3 p4 o (i + 1) W' := by
  obtain ⟨ring, newest, count, h1, h2, h3, h4⟩ := h
  have hl := h1.lg.lim
  refine (put_go W h1.lg (f + i) _ (by omega) (by rcases Nat.eq_zero_or_pos i with h0 | h0; exact .inl (by omega); exact .inr (by have := h3 h0; omega))).mono ?_
  rintro e W' ⟨he, q1, q2⟩
  refine ⟨he, _, _, _, h1.put q1 q2, by omega, fun _ => by omega, fun j hj hk => ?_⟩
  unfold put1
  by_cases e : j = i
  · subst e; rw [if_pos rfl]
  · rw [if_neg (mod_ne (by omega) (by omega))]
    exact h4 j (by omega) (by omega)
theorem St.kept (h : St w g r b k f p1 p2 p3 p4 o i W) (hf : f ≤ 4611686018427387603) (hi : i ≤ 200) {j : Nat} (hj : j < i) (hk : i ≤ j + k) :
    Calls Try.prog 18 #[.pointer (some ⟨g, 0, none⟩), .int .u64 ((f + j : Nat) : Int)] W (AtIs W (TR p1 p2 p3 p4 (j % 5)) true) := by
  obtain ⟨ring, newest, count, h1, h2, h3, h4⟩ := h
  have := h3 (by omega)
  rw [← h4 j hj hk]
  exact at_in W h1.lg (f + j) (by omega) (by omega) (by omega) (by omega)
theorem St.gone (h : St w g r b k f p1 p2 p3 p4 o i W) (hf : f ≤ 4611686018427387603) (hi : i ≤ 200) {j : Nat} (hk : j + k < i ∨ j = i) :
    Calls Try.prog 18 #[.pointer (some ⟨g, 0, none⟩), .int .u64 ((f + j : Nat) : Int)] W (AtIs W none false) := by
  obtain ⟨ring, newest, count, h1, h2, h3, h4⟩ := h
  have hl := h1.lg.lim
  rcases Nat.eq_zero_or_pos i with h0 | h0
  · have : count = 0 := by omega
    subst this
    exact at_none W h1.lg (f + j) (by omega)
  · have := h3 h0
    exact at_out W h1.lg (f + j) (by omega) (by omega) (by omega)
end
set_option maxRecDepth 100000 in
set_option maxHeartbeats 16000000 in
theorem keeps_in (f k m : Nat) (w : World) (hf : f ≤ 4611686018427387603) (hk1 : 1 ≤ k) (hk2 : k ≤ 100) (hm : m ≤ 200) :
    Calls Try.prog 4 #[.int .u64 (f : Int), .int .i64 (k : Int), .int .i64 (m : Int)] w fun e w' => e = .returned (.bool true) ∧ Below w.heap.size w w' := by
  have HN := Lib.hid (new_any k w hk1 (by omega))
  have HT := Lib.hid trees_any
  have HK := Lib.hid known_any
  have HIS := Lib.hid is_same
  have HF := Lib.hid hf
  have t1 : decide ((4611686018427387603 : Int) < (f : Int)) = false := by simp; omega
  have t2 : ¬ (k : Int) < 1 := by omega
  have t3 : ¬ (100 : Int) < (k : Int) := by omega
  have t4 : ¬ (200 : Int) < (m : Int) := by omega
  have HW : Hid (∀ i : Nat, i ≤ 200 → ∃ v : Nat, v = f + i ∧ IntKind.u64.wrap ((f : Int) + (i : Int)) = (v : Int)) := fun i hi => ⟨f + i, rfl, by rw [IntWalk.u64_in] <;> omega⟩
  clear hf
  go_enter Try.func4, Try.ntmps4
  go_wp2_with fail
  ((refine HN.out.mono ?_); rintro e w1 ⟨g, r, rfl, hL, hlow, b1⟩)
  go_wp2_with fail
  ((refine (HT.out _).mono ?_); rintro e w2 ⟨b, p1, p2, p3, p4, rfl, hrow, hb, hne, b2⟩)
  obtain ⟨o, ho⟩ : ∃ o, o = Obj.cells (TreesV p1 p2 p3 p4).toArray 40 (0, 0) := ⟨_, rfl⟩
  have hS : St w g r b k f p1 p2 p3 p4 o 0 w2 := ⟨_, _, _, ⟨hL.then b2, by rw [ho]; exact hrow, b1.trans (b2.mono b1.size), hlow.1, hlow.2, by have := hL.lt; omega, by have := hL.lt; omega⟩, by omega, fun h => absurd h (by omega), fun j hj => absurd hj (by omega)⟩
  have HS := Lib.hid hS
  have HO : Hid (o = Obj.cells (TreesV p1 p2 p3 p4).toArray 40 (0, 0)) := ho
  have HPK : Hid (∀ (i : Nat) V, i ≤ 200 → V.heap[b]? = some o → Calls Try.prog 12 #[.slice (some ⟨b, 0, none⟩) 5 5, .int .i64 (i : Int)] V (PickIs V (TR p1 p2 p3 p4 (i % 5)) (i % 5))) := fun i V hi h => pick_any V b p1 p2 p3 p4 i (by rw [h, ho]) (by omega)
  clear hS ho hrow hb hne b1 b2 hL hlow
  go_wp2
  go_loopw [10] (fun iv wr => ∃ i : Nat, i ≤ m ∧ iv = .int .i64 i ∧ Hid (St w g r b k f p1 p2 p3 p4 o i wr)) (fun iv _ => m - (intOf iv).toNat)
  case atStart => exact ⟨0, Nat.zero_le _, rfl, HS⟩
  case round =>
    obtain ⟨i, hi, rfl, HI⟩ := hrel
    clear HS
    by_cases hlt : i < m
    · obtain ⟨v, hv, hw⟩ := HW.out i (by omega)
      have HV := Lib.hid hv
      obtain ⟨k5, hk5⟩ : ∃ k5, i % 5 = k5 := ⟨_, rfl⟩
      have HP := HPK.out i wr (by omega) HI.out.row
      have HPut := Lib.hid fun V (hV : Below wr.heap.size wr V) => (HI.out.then hV).put (i := i) (by omega) HF.out
      rw [hk5] at HP
      simp only [hk5, ← hv] at HPut
      obtain ⟨p, hp⟩ : ∃ p, TR p1 p2 p3 p4 k5 = p := ⟨_, rfl⟩
      rw [hp] at HP
      simp only [hp] at HPut
      have HPP := Lib.hid HP
      clear HP hk5 hp hv
      go_wp2_with fail
      ((refine HPP.out.mono ?_); rintro e w3 ⟨rfl, b3⟩)
      have B3 := Lib.hid b3
      clear b3
      go_wp2_with fail
      ((refine (HPut.out _ (B3.out.alloc B3.out.size _)).mono ?_); rintro e w4 ⟨rfl, S4⟩)
      have HS4 := Lib.hid S4
      clear S4
      go_wp2
      go_roundw
      case rel => exact ⟨i + 1, by omega, by go_num, HS4⟩
      case measure => clear hw; simp [intOf]; omega
    · have hie : i = m := by omega
      rw [hie] at HI
      clear hie
      go_wp2
      clear hlt hi
      go_loopw [13] (fun jv wr => ∃ j : Nat, j ≤ m ∧ jv = .int .i64 j ∧ Hid (St w g r b k f p1 p2 p3 p4 o m wr)) (fun jv _ => m - (intOf jv).toNat)
      case atStart => exact ⟨0, Nat.zero_le _, rfl, HI⟩
      case round =>
        obtain ⟨j, hj, rfl, HJ⟩ := hrel
        clear HI
        by_cases hlt : j < m
        · obtain ⟨v, hv, hw⟩ := HW.out j (by omega)
          obtain ⟨k5, hk5⟩ : ∃ k5, j % 5 = k5 := ⟨_, rfl⟩
          obtain ⟨p, hp⟩ : ∃ p, TR p1 p2 p3 p4 k5 = p := ⟨_, rfl⟩
          have HP := fun V (hV : Below wr.heap.size wr V) => HPK.out j V (by omega) (HJ.out.then hV).row
          simp only [hk5, hp] at HP
          have HPP := Lib.hid HP
          clear HP
          by_cases hke : m ≤ j + k
          · have hd : decide ((m : Int) - (k : Int) ≤ (j : Int)) = true := by rw [decide_eq_true_eq]; omega
            have HA := HJ.out.kept HF.out hm hlt hke
            rw [hk5, hp, ← hv] at HA
            unfold AtIs treeV at HA
            have HAA := Lib.hid HA
            clear HA hk5 hp hv
            go_wp2_with fail
            ((refine HAA.out.mono ?_); rintro e w3 ⟨rfl, b3⟩)
            have B3 := Lib.hid b3
            have q0 := heap_alloc_new w3 (.cells #[.pointer p, .nilFunc] 40)
            have BA : Hid (Below wr.heap.size wr (w3.alloc (.cells #[.pointer p, .nilFunc] 40))) := b3.alloc b3.size _
            have Q0 := Lib.hid q0
            clear b3 q0
            go_wp2_with fail
            ((refine (HPP.out _ BA.out).mono ?_); rintro e w4 ⟨rfl, b4⟩)
            have z4 := b4.size
            rw [zal] at z4
            obtain ⟨c0, c1⟩ := row2 ((b4.block w3.heap.size (by rw [zal]; omega)).trans Q0.out)
            have lt : w3.heap.size < w4.heap.size := by omega
            have ne : w3.heap.size ≠ w4.heap.size := by omega
            have B4 := Lib.hid (BA.out.trans (b4.mono BA.out.size))
            clear b4 z4
            go_wp2_with fail
            ((refine (HIS.out _ _).mono ?_); rintro e w5 ⟨rfl, b5⟩)
            have S5 := Lib.hid (HJ.out.then ((B4.out.alloc B4.out.size (.cells #[.pointer p, .nilFunc] 40)).trans (b5.mono (by rw [zal]; have := B4.out.size; omega))))
            clear b5 c0 c1 lt ne
            go_wp2
            go_roundw
            case rel => exact ⟨j + 1, by omega, by go_num, S5⟩
            case measure => clear hw hd; simp [intOf]; omega
          · have hd : decide ((m : Int) - (k : Int) ≤ (j : Int)) = false := by rw [decide_eq_false_iff_not]; omega
            have HA := HJ.out.gone HF.out hm (j := j) (.inl (by omega))
            rw [← hv] at HA
            unfold AtIs treeV at HA
            have HAA := Lib.hid HA
            clear HA hk5 hp hv
            go_wp2_with fail
            ((refine HAA.out.mono ?_); rintro e w3 ⟨rfl, b3⟩)
            have BA : Hid (Below wr.heap.size wr (w3.alloc (.cells #[.pointer none, .nilFunc] 40))) := b3.alloc b3.size _
            clear b3
            go_wp2_with fail
            ((refine (HPP.out _ BA.out).mono ?_); rintro e w4 ⟨rfl, b4⟩)
            have B4 : Hid (Below wr.heap.size wr w4) := BA.out.trans (b4.mono BA.out.size)
            have S5 := Lib.hid (HJ.out.then (B4.out.alloc B4.out.size (.cells #[.pointer p, .nilFunc] 40)))
            clear b4
            go_wp2
            go_roundw
            case rel => exact ⟨j + 1, by omega, by go_num, S5⟩
            case measure => clear hw hd; simp [intOf]; omega
        · obtain ⟨v, hv, hw⟩ := HW.out m (by omega)
          have HA := HJ.out.gone HF.out hm (j := m) (.inr rfl)
          rw [← hv] at HA
          unfold AtIs treeV at HA
          have HAA := Lib.hid HA
          clear HA hv
          go_wp2_with fail
          ((refine HAA.out.mono ?_); rintro e w3 ⟨rfl, b3⟩)
          have BA : Hid (Below w.heap.size w (w3.alloc (.cells #[.pointer none, .nilFunc] 40))) := (HJ.out.then (b3.alloc b3.size _)).bel
          clear b3
          go_wp2_with fail
          ((refine (HK.out _).mono ?_); rintro e w4 ⟨rfl, b4⟩)
          have B4 : Hid (Below w.heap.size w w4) := BA.out.trans (b4.mono BA.out.size)
          clear b4
          go_wp2
          go_ret
          exact ⟨rfl, B4.out⟩
set_option maxRecDepth 100000 in
set_option maxHeartbeats 16000000 in
theorem keeps_out (f : Nat) (k m : Int) (w : World) (h : 4611686018427387603 < f ∨ k < 1 ∨ 100 < k ∨ m < 0 ∨ 200 < m) :
    Calls Try.prog 4 #[.int .u64 (f : Int), .int .i64 k, .int .i64 m] w fun e w' => e = .returned (.bool true) ∧ Below w.heap.size w w' := by
  have HK := Lib.hid (known_any w)
  have h' : (decide ((4611686018427387603 : Int) < (f : Int)) = true) ∨ (decide ((4611686018427387603 : Int) < (f : Int)) = false ∧ decide (k < 1) = true) ∨ (decide ((4611686018427387603 : Int) < (f : Int)) = false ∧ decide (k < 1) = false ∧ decide (100 < k) = true) ∨ (decide ((4611686018427387603 : Int) < (f : Int)) = false ∧ decide (k < 1) = false ∧ decide (100 < k) = false ∧ decide (m < 0) = true) ∨ (decide ((4611686018427387603 : Int) < (f : Int)) = false ∧ decide (k < 1) = false ∧ decide (100 < k) = false ∧ decide (m < 0) = false ∧ decide (200 < m) = true) := by
    simp only [decide_eq_true_eq, decide_eq_false_iff_not]
    omega
  clear h
  rcases h' with e1 | ⟨e1, e2⟩ | ⟨e1, e2, e3⟩ | ⟨e1, e2, e3, e4⟩ | ⟨e1, e2, e3, e4, e5⟩
  all_goals
    go_enter Try.func4, Try.ntmps4
    go_wp2_with fail
    ((with_reducible refine HK.out.mono ?_); rintro e w1 ⟨rfl, b1⟩)
    go_wp2
    go_ret
    exact ⟨rfl, b1⟩
theorem logKeeps_walk (f : Nat) (k m : Int) (w : World) (hf : f < 18446744073709551616) (_h1 : -9223372036854775808 ≤ k) (_h2 : k ≤ 9223372036854775807) (_h3 : -9223372036854775808 ≤ m) (_h4 : m ≤ 9223372036854775807) :
    Calls Try.prog 4 #[.int .u64 (f : Int), .int .i64 k, .int .i64 m] w fun e w' => e = .returned (.bool true) ∧ Below w.heap.size w w' := by
  by_cases h : 4611686018427387603 < f ∨ k < 1 ∨ 100 < k ∨ m < 0 ∨ 200 < m
  · exact keeps_out f k m w h
  obtain ⟨x, rfl⟩ : ∃ x : Nat, k = (x : Int) := ⟨k.toNat, by omega⟩
  obtain ⟨y, rfl⟩ : ∃ y : Nat, m = (y : Int) := ⟨m.toNat, by omega⟩
  exact keeps_in f x y w (by omega) (by omega) (by omega) (by omega)
end Go.Proofs.Ytkdlfgfjahnhmaa
