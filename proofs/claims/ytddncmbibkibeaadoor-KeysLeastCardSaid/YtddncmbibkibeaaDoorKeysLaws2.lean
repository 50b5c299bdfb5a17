import Derived.Test.YtddncmbibkibeaaDoorKeysKnown
namespace Go.Proofs.YtddncmbibkibeaaDoor
open Go.RowKit Utf Keys
open Go.Lib (validD hasPrefix)

theorem concat_run (a b : List UInt8) (ha : a.length ≤ 562949953421312) (hb : b.length ≤ 562949953421312) : ∃ z, z = bs (a ++ b) ∧ ∀ W, (Op.stringOp .add (bs a) (bs b)).run Tryd.prog W = .ok (.string z) W :=
  ⟨_, rfl, fun W => add_run _ _ (by rw [bs_size, bs_size]; omega) _ (bs_append a b).symm W⟩

set_option maxHeartbeats 2000000 in
theorem keysLeast_walk (p r o : ByteArray) (w : World) (hT : Tabs w) (_hp : p.size ≤ 140737488351232) (_hr : r.size ≤ 140737488351232) (_ho : o.size ≤ 140737488351232) :
    Calls Tryd.prog 6 #[.string p, .string r, .string o] w fun e w' => e = .returned (.bool true) ∧ Below w.heap.size w w' := by
  have hl : p.data.toList.length ≤ 140737488351232 := by rw [← Lib.size_eq]; exact _hp
  have hl2 : r.data.toList.length ≤ 140737488351232 := by rw [← Lib.size_eq]; exact _hr
  obtain ⟨P, hP⟩ : ∃ P, P = p.data.toList := ⟨_, rfl⟩
  obtain ⟨R, hR⟩ : ∃ R, R = r.data.toList := ⟨_, rfl⟩
  obtain ⟨O, hO⟩ : ∃ O, O = o.data.toList := ⟨_, rfl⟩
  have hpb : p = bs P := by rw [hP]; exact bs_of p
  have hrb : r = bs R := by rw [hR]; exact bs_of r
  have hob : o = bs O := by rw [hO]; exact bs_of o
  rw [← hP] at hl
  rw [← hR] at hl2
  have c1 := end_any P w (by omega)
  have hn := end_none P
  have hnn := end_none_nil P
  have hw := prefix_within P O
  have hw2 := prefix_within P (P ++ R)
  rw [prefix_append] at hw2
  obtain ⟨⟨a, b⟩, hq⟩ : ∃ q, q = endL P := ⟨_, rfl⟩
  rw [← hq] at c1 hn hnn hw hw2
  unfold strBool at c1
  obtain ⟨s, hs⟩ : ∃ s, s = bs a := ⟨_, rfl⟩
  simp only [← hs, ← hpb] at c1
  have hbeg : hasPrefix O P = (decide (p.size ≤ o.size) && ((o.extract 0 p.size).toList == p.toList)) := by
    rw [← Lib.hasPrefix_of_take, hpb, hob, bs_take, bs_toList, bs_toList, bs_size, bs_size]
  cases b with
  | false =>
    have hn := hn rfl
    have hnn : a = [] := hnn rfl
    have hse : s.toList.isEmpty = true := by rw [hs, bs_toList, hnn]; rfl
    have HG : Hid (∀ (j : Nat) (h : j < p.size), ((p[j]'h).toNat : Int) = 255) := fun j h => by
      have h1 := bs_get P j (by rw [← hpb]; exact h)
      have h2 := hn j (by rw [hpb, bs_size] at h; exact h)
      rw [h2] at h1
      subst hpb
      exact h1
    have HC := Lib.hid c1
    clear c1 hq hs hpb hrb hob hP hR hO hl hl2 hw hw2 hn hnn hbeg
    go_enter Tryd.func6, Tryd.ntmps6
    go_wp2_with fail
    ((with_reducible refine HC.out.mono ?_); rintro e w1 ⟨rfl, b1⟩)
    clear HC
    go_wp2
    go_loopw [9] (fun i wr => wr = w1 ∧ ∃ k : Nat, k ≤ p.size ∧ i = .int .i64 k) (fun i _ => p.size - (intOf i).toNat)
    case atStart => exact ⟨rfl, 0, Nat.zero_le _, rfl⟩
    case round =>
      obtain ⟨rfl, k, hk, rfl⟩ := hrel
      by_cases hlt : k < p.size
      · have hget := HG.out k hlt
        go_wp2
        go_roundw
        case rel => exact ⟨trivial, k + 1, by omega, by go_num⟩
        case measure => simp [intOf]; omega
      · go_wp2_with fail
        ((with_reducible refine (keysKnown_any _ (tabs_below hT b1)).mono ?_); rintro e w4 ⟨rfl, b4⟩)
        have k4 := bthen b1 b4
        go_wp2
        go_ret
        exact ⟨rfl, k4⟩
  | true =>
    obtain ⟨z, hz, ha⟩ := concat_run P R (by omega) (by omega)
    rw [← hpb, ← hrb] at ha
    unfold within at hw hw2
    simp only [Bool.not_true, Bool.false_or] at hw hw2
    have hzs : Op.bytesLess z.toList s.toList = true := by
      rw [hz, hs, bs_toList, bs_toList]
      simp only [Bool.and_eq_true] at hw2
      exact hw2.2
    obtain ⟨x1, hx1⟩ : ∃ x, Op.bytesLess o.toList p.toList = x := ⟨_, rfl⟩
    obtain ⟨x2, hx2⟩ : ∃ x, Op.bytesLess o.toList s.toList = x := ⟨_, rfl⟩
    have hw3 : (!x1 && x2) = hasPrefix O P := by rw [← hx1, ← hx2, hob, hpb, hs, bs_toList, bs_toList, bs_toList]; exact hw
    rw [hbeg] at hw3
    have HC := Lib.hid c1
    clear c1 hq hs hpb hrb hob hP hR hO hl hl2 hw hw2 hn hnn hbeg hz
    by_cases hx : x1 = false ∧ x2 = true
    · obtain ⟨rfl, rfl⟩ := hx
      simp only [Bool.not_false, Bool.and_self] at hw3
      have hle : p.size ≤ o.size := by
        by_cases h : p.size ≤ o.size
        · exact h
        · rw [decide_eq_false h] at hw3; cases hw3
      rw [decide_eq_true hle, Bool.true_and] at hw3
      have hw4 := hw3.symm
      have hle1 : (p.size : Int) ≤ (o.size : Int) := by omega
      clear hw3
      go_enter Tryd.func6, Tryd.ntmps6
      go_wp2_with fail
      ((with_reducible refine HC.out.mono ?_); rintro e w1 ⟨rfl, b1⟩)
      clear HC
      go_wp2_with fail
      ((with_reducible refine (keysKnown_any _ (tabs_below hT b1)).mono ?_); rintro e w4 ⟨rfl, b4⟩)
      have k4 := bthen b1 b4
      go_wp2
      go_ret
      exact ⟨rfl, k4⟩
    · clear hw3
      cases x1 with
      | true =>
        go_enter Tryd.func6, Tryd.ntmps6
        go_wp2_with fail
        ((with_reducible refine HC.out.mono ?_); rintro e w1 ⟨rfl, b1⟩)
        clear HC
        go_wp2_with fail
        ((with_reducible refine (keysKnown_any _ (tabs_below hT b1)).mono ?_); rintro e w4 ⟨rfl, b4⟩)
        have k4 := bthen b1 b4
        go_wp2
        go_ret
        exact ⟨rfl, k4⟩
      | false =>
        obtain rfl : x2 = false := by
          cases x2
          · rfl
          · exact absurd ⟨rfl, rfl⟩ hx
        go_enter Tryd.func6, Tryd.ntmps6
        go_wp2_with fail
        ((with_reducible refine HC.out.mono ?_); rintro e w1 ⟨rfl, b1⟩)
        clear HC
        go_wp2_with fail
        ((with_reducible refine (keysKnown_any _ (tabs_below hT b1)).mono ?_); rintro e w4 ⟨rfl, b4⟩)
        have k4 := bthen b1 b4
        go_wp2
        go_ret
        exact ⟨rfl, k4⟩

/-- What turning a key with 'from' ahead of it gives. -/
theorem turn_app (F T A : List UInt8) (W : World) (hW : Tabs W) (hF : F.length ≤ 140737488351232) (hTl : T.length ≤ 140737488351232) (hA : A.length ≤ 140737488351232) :
    Calls Tryd.prog 18 #[.string (bs (F ++ A)), .string (bs F), .string (bs T)] W fun e w' =>
      e = .returned (if may (T ++ A) = 0 then .tuple #[.string (bs (T ++ A)), .int .i64 0] else .tuple #[.string (bs []), .int .i64 (may (T ++ A) : Nat)]) ∧ Below W.heap.size W w' := by
  have := turn_any (F ++ A) F T W (by rw [List.length_append]; omega) (by omega) (by omega) hW
  rw [turn_append] at this
  refine this.mono fun e w' ⟨he, hb⟩ => ⟨?_, hb⟩
  rw [he]
  split <;> rfl

set_option maxHeartbeats 4000000 in
theorem keysBack_walk (f t a b : ByteArray) (w : World) (hT : Tabs w) (_hf : f.size ≤ 140737488351232) (_ht : t.size ≤ 140737488351232) (_ha : a.size ≤ 140737488351232) (_hb : b.size ≤ 140737488351232) :
    Calls Tryd.prog 9 #[.string f, .string t, .string a, .string b] w fun e w' => e = .returned (.bool true) ∧ Below w.heap.size w w' := by
  obtain ⟨F, hF⟩ : ∃ L, L = f.data.toList := ⟨_, rfl⟩
  obtain ⟨T, hTT⟩ : ∃ L, L = t.data.toList := ⟨_, rfl⟩
  obtain ⟨A, hA⟩ : ∃ L, L = a.data.toList := ⟨_, rfl⟩
  obtain ⟨B, hB⟩ : ∃ L, L = b.data.toList := ⟨_, rfl⟩
  have lF : F.length ≤ 140737488351232 := by rw [hF, ← Lib.size_eq]; exact _hf
  have lT : T.length ≤ 140737488351232 := by rw [hTT, ← Lib.size_eq]; exact _ht
  have lA : A.length ≤ 140737488351232 := by rw [hA, ← Lib.size_eq]; exact _ha
  have lB : B.length ≤ 140737488351232 := by rw [hB, ← Lib.size_eq]; exact _hb
  have eF : f = bs F := by rw [hF]; exact bs_of f
  have eT : t = bs T := by rw [hTT]; exact bs_of t
  have eA : a = bs A := by rw [hA]; exact bs_of a
  have eB : b = bs B := by rw [hB]; exact bs_of b
  have c1 := fun W hW => turn_app F T A W hW lF lT lA
  have c2 := fun W hW => turn_app F T B W hW lF lT lB
  have c3 := fun W hW => turn_app T F A W hW lT lF lA
  have c4 := fun W hW => may_any (F ++ A) W (by rw [List.length_append]; omega) hW
  obtain ⟨y1, e1, r1⟩ := concat_run F A (by omega) (by omega)
  obtain ⟨y2, e2, r2⟩ := concat_run F B (by omega) (by omega)
  obtain ⟨z1, e3⟩ : ∃ z, z = bs (T ++ A) := ⟨_, rfl⟩
  obtain ⟨z2, e4⟩ : ∃ z, z = bs (T ++ B) := ⟨_, rfl⟩
  rw [← e1, ← eF, ← eT] at c1
  rw [← e2, ← eF, ← eT] at c2
  rw [← e3] at c1
  rw [← e4] at c2
  rw [← e3, ← eF, ← eT, ← e1] at c3
  rw [← e1] at c4
  rw [← eF, ← eA] at r1
  rw [← eF, ← eB] at r2
  have hlt : Op.bytesLess z1.toList z2.toList = Op.bytesLess a.toList b.toList := by rw [e3, e4, eA, eB, bs_toList, bs_toList, bs_toList, bs_toList, less_same]
  obtain ⟨x, hx⟩ : ∃ x, Op.bytesLess a.toList b.toList = x := ⟨_, rfl⟩
  rw [hx] at hlt
  have hyy : (y1.toList == y1.toList) = true := by simp
  have hxx : (x != x) = false := by simp
  obtain ⟨m1, h1⟩ : ∃ m, m = may (T ++ A) := ⟨_, rfl⟩
  obtain ⟨m2, h2⟩ : ∃ m, m = may (T ++ B) := ⟨_, rfl⟩
  obtain ⟨m3, h3⟩ : ∃ m, m = may (F ++ A) := ⟨_, rfl⟩
  rw [← h1] at c1
  rw [← h2] at c2
  rw [← h3] at c3 c4
  clear h1 h2 h3 e1 e2 e3 e4 eF eT eA eB lF lT lA lB hF hTT hA hB
  by_cases q1 : m1 = 0
  · have g1 : ((m1 : Nat) : Int) = 0 := by omega
    simp only [if_pos q1] at c1
    by_cases q2 : m2 = 0
    · simp only [if_pos q2] at c2
      by_cases q3 : m3 = 0
      · simp only [if_pos q3] at c3
        rw [q3] at c4
        have C1 := Lib.hid c1
        have C2 := Lib.hid c2
        have C3 := Lib.hid c3
        have C4 := Lib.hid c4
        clear c1 c2 c3 c4 q1 q2 q3 g1
        go_enter Tryd.func9, Tryd.ntmps9
        go_wp2_with fail
        ((with_reducible refine (C1.out _ hT).mono ?_); rintro e w1 ⟨rfl, b1⟩)
        go_wp2_with fail
        ((with_reducible refine (C2.out _ (tabs_below hT b1)).mono ?_); rintro e w2 ⟨rfl, b2⟩)
        have k2 := bthen b1 b2
        go_wp2_with fail
        ((with_reducible refine (C4.out _ (tabs_below hT k2)).mono ?_); rintro e w3 ⟨rfl, b3⟩)
        have k3 := bthen k2 b3
        go_wp2_with fail
        ((with_reducible refine (C3.out _ (tabs_below hT k3)).mono ?_); rintro e w4 ⟨rfl, b4⟩)
        have k4 := bthen k3 b4
        go_wp2_with fail
        ((with_reducible refine (keysKnown_any _ (tabs_below hT k4)).mono ?_); rintro e w5 ⟨rfl, b5⟩)
        have k5 := bthen k4 b5
        go_wp2
        go_ret
        exact ⟨rfl, k5⟩
      · have C1 := Lib.hid c1
        have C2 := Lib.hid c2
        have C4 := Lib.hid c4
        have g3 : (((m3 : Nat) : Int) == 0) = false := by rw [beq_eq_false_iff_ne]; omega
        clear c1 c2 c3 c4 q1 q2 q3 g1
        go_enter Tryd.func9, Tryd.ntmps9
        go_wp2_with fail
        ((with_reducible refine (C1.out _ hT).mono ?_); rintro e w1 ⟨rfl, b1⟩)
        go_wp2_with fail
        ((with_reducible refine (C2.out _ (tabs_below hT b1)).mono ?_); rintro e w2 ⟨rfl, b2⟩)
        have k2 := bthen b1 b2
        go_wp2_with fail
        ((with_reducible refine (C4.out _ (tabs_below hT k2)).mono ?_); rintro e w3 ⟨rfl, b3⟩)
        have k3 := bthen k2 b3
        go_wp2_with fail
        ((with_reducible refine (keysKnown_any _ (tabs_below hT k3)).mono ?_); rintro e w5 ⟨rfl, b5⟩)
        have k5 := bthen k3 b5
        go_wp2
        go_ret
        exact ⟨rfl, k5⟩
    · simp only [if_neg q2] at c2
      have g2 : (((m2 : Nat) : Int) == 0) = false := by rw [beq_eq_false_iff_ne]; omega
      by_cases q3 : m3 = 0
      · simp only [if_pos q3] at c3
        rw [q3] at c4
        have C1 := Lib.hid c1
        have C2 := Lib.hid c2
        have C3 := Lib.hid c3
        have C4 := Lib.hid c4
        clear c1 c2 c3 c4 q1 q2 q3 g1
        go_enter Tryd.func9, Tryd.ntmps9
        go_wp2_with fail
        ((with_reducible refine (C1.out _ hT).mono ?_); rintro e w1 ⟨rfl, b1⟩)
        go_wp2_with fail
        ((with_reducible refine (C2.out _ (tabs_below hT b1)).mono ?_); rintro e w2 ⟨rfl, b2⟩)
        have k2 := bthen b1 b2
        go_wp2_with fail
        ((with_reducible refine (C4.out _ (tabs_below hT k2)).mono ?_); rintro e w3 ⟨rfl, b3⟩)
        have k3 := bthen k2 b3
        go_wp2_with fail
        ((with_reducible refine (C3.out _ (tabs_below hT k3)).mono ?_); rintro e w4 ⟨rfl, b4⟩)
        have k4 := bthen k3 b4
        go_wp2_with fail
        ((with_reducible refine (keysKnown_any _ (tabs_below hT k4)).mono ?_); rintro e w5 ⟨rfl, b5⟩)
        have k5 := bthen k4 b5
        go_wp2
        go_ret
        exact ⟨rfl, k5⟩
      · have C1 := Lib.hid c1
        have C2 := Lib.hid c2
        have C4 := Lib.hid c4
        have g3 : (((m3 : Nat) : Int) == 0) = false := by rw [beq_eq_false_iff_ne]; omega
        clear c1 c2 c3 c4 q1 q2 q3 g1
        go_enter Tryd.func9, Tryd.ntmps9
        go_wp2_with fail
        ((with_reducible refine (C1.out _ hT).mono ?_); rintro e w1 ⟨rfl, b1⟩)
        go_wp2_with fail
        ((with_reducible refine (C2.out _ (tabs_below hT b1)).mono ?_); rintro e w2 ⟨rfl, b2⟩)
        have k2 := bthen b1 b2
        go_wp2_with fail
        ((with_reducible refine (C4.out _ (tabs_below hT k2)).mono ?_); rintro e w3 ⟨rfl, b3⟩)
        have k3 := bthen k2 b3
        go_wp2_with fail
        ((with_reducible refine (keysKnown_any _ (tabs_below hT k3)).mono ?_); rintro e w5 ⟨rfl, b5⟩)
        have k5 := bthen k3 b5
        go_wp2
        go_ret
        exact ⟨rfl, k5⟩
  · have g1 : (((m1 : Nat) : Int) == 0) = false := by rw [beq_eq_false_iff_ne]; omega
    simp only [if_neg q1] at c1
    have C1 := Lib.hid c1
    have C2 := Lib.hid c2
    clear c1 c2 c3 c4 q1
    go_enter Tryd.func9, Tryd.ntmps9
    go_wp2_with fail
    ((with_reducible refine (C1.out _ hT).mono ?_); rintro e w1 ⟨rfl, b1⟩)
    go_wp2_with fail
    ((with_reducible refine (C2.out _ (tabs_below hT b1)).mono ?_); rintro e w2 ⟨rfl, b2⟩)
    have k2 := bthen b1 b2
    by_cases q2 : m2 = 0
    · rw [if_pos q2]
      go_wp2_with fail
      ((with_reducible refine (keysKnown_any _ (tabs_below hT k2)).mono ?_); rintro e w5 ⟨rfl, b5⟩)
      have k5 := bthen k2 b5
      go_wp2
      go_ret
      exact ⟨rfl, k5⟩
    · rw [if_neg q2]
      go_wp2_with fail
      ((with_reducible refine (keysKnown_any _ (tabs_below hT k2)).mono ?_); rintro e w5 ⟨rfl, b5⟩)
      have k5 := bthen k2 b5
      go_wp2
      go_ret
      exact ⟨rfl, k5⟩
end Go.Proofs.YtddncmbibkibeaaDoor
