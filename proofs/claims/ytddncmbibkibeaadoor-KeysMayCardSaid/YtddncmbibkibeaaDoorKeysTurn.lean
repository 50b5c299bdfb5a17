import Derived.Test.YtddncmbibkibeaaDoorKeysEnd
namespace Go.Proofs.YtddncmbibkibeaaDoor
open Go.RowKit Utf Keys
open Go.Lib (validD hasPrefix)

theorem begins_any (l p : List UInt8) (w : World) :
    Calls Tryd.prog 15 #[.string (bs l), .string (bs p)] w fun e w' => e = .returned (.bool (hasPrefix l p)) ∧ w' = w := by
  have c1 := Tryd.strings_HasPrefix (bs l) (bs p) w
  rw [bs_data, bs_data] at c1
  obtain ⟨s, hs⟩ : ∃ s, s = bs l := ⟨_, rfl⟩
  obtain ⟨t, ht⟩ : ∃ t, t = bs p := ⟨_, rfl⟩
  obtain ⟨q, hq⟩ : ∃ q, q = hasPrefix l p := ⟨_, rfl⟩
  rw [← hs, ← ht, ← hq] at c1 ⊢
  have HC := Lib.hid c1
  clear hs ht hq c1
  go_enter Tryd.func15, Tryd.ntmps15
  go_wp2_with fail
  ((with_reducible refine HC.out.mono ?_); rintro e w1 ⟨rfl, rfl⟩)
  go_wp2
  go_ret
  exact ⟨rfl, rfl⟩

theorem within_any (k lo hi : List UInt8) (op : Bool) (w : World) :
    Calls Tryd.prog 16 #[.string (bs k), .string (bs lo), .string (bs hi), .bool op] w fun e w' => e = .returned (.bool (within k lo hi op)) ∧ w' = w := by
  obtain ⟨s, hs, _, hsl, _⟩ := str_name k
  obtain ⟨t, ht, _, htl, _⟩ := str_name lo
  obtain ⟨u, hu, _, hul, _⟩ := str_name hi
  have hw : within k lo hi op = (!(Op.bytesLess s.toList t.toList) && (op || Op.bytesLess s.toList u.toList)) := by rw [Lib.toList_data, Lib.toList_data, Lib.toList_data, hsl, htl, hul]; rfl
  rw [← hs, ← ht, ← hu, hw]
  obtain ⟨a, ha⟩ : ∃ a, Op.bytesLess s.toList t.toList = a := ⟨_, rfl⟩
  obtain ⟨b, hb⟩ : ∃ b, Op.bytesLess s.toList u.toList = b := ⟨_, rfl⟩
  rw [ha, hb]
  clear hs ht hu hw hsl htl hul
  cases a <;> cases op <;> cases b
  all_goals
    go_enter Tryd.func16, Tryd.ntmps16
    go_wp2
    go_ret
    exact ⟨rfl, rfl⟩
theorem refWithin_any (k lo hi : List UInt8) (op : Bool) (w : World) :
    Calls Tryd.prog 17 #[.string (bs k), .string (bs lo), .string (bs hi), .bool op] w fun e w' => e = .returned (.bool (within k lo hi op)) ∧ w' = w := by
  obtain ⟨s, hs, _, hsl, _⟩ := str_name k
  obtain ⟨t, ht, _, htl, _⟩ := str_name lo
  obtain ⟨u, hu, _, hul, _⟩ := str_name hi
  have hw : within k lo hi op = (!(Op.bytesLess s.toList t.toList) && (op || Op.bytesLess s.toList u.toList)) := by rw [Lib.toList_data, Lib.toList_data, Lib.toList_data, hsl, htl, hul]; rfl
  rw [← hs, ← ht, ← hu, hw]
  obtain ⟨a, ha⟩ : ∃ a, Op.bytesLess s.toList t.toList = a := ⟨_, rfl⟩
  obtain ⟨b, hb⟩ : ∃ b, Op.bytesLess s.toList u.toList = b := ⟨_, rfl⟩
  rw [ha, hb]
  clear hs ht hu hw hsl htl hul
  cases a <;> cases op <;> cases b
  all_goals
    go_enter Tryd.func17, Tryd.ntmps17
    go_wp2
    go_ret
    exact ⟨rfl, rfl⟩
theorem hasPrefix_take (l p : List UInt8) : hasPrefix l p = (decide (p.length ≤ l.length) && (l.take p.length == p)) := (Lib.hasPrefix_of_take l p).symm
/-- The first so many bytes are alike. -/
theorem take_succ_eq (l p : List UInt8) (k : Nat) (hl : k < l.length) (hp : k < p.length) : (l.take (k + 1) == p.take (k + 1)) = (l.take k == p.take k && l.getD k 0 == p.getD k 0) := by
  rw [List.take_succ_eq_append_getElem hl, List.take_succ_eq_append_getElem hp]
  have e1 : l.getD k 0 = l[k] := by simp [List.getD, hl]
  have e2 : p.getD k 0 = p[k] := by simp [List.getD, hp]
  rw [e1, e2, Bool.eq_iff_iff]
  simp only [beq_iff_eq, Bool.and_eq_true]
  constructor
  · intro h
    have := List.append_inj h (by rw [List.length_take, List.length_take]; omega)
    exact ⟨this.1, by simpa using this.2⟩
  · rintro ⟨h1, h2⟩
    rw [h1, h2]

set_option maxHeartbeats 1000000 in
theorem refBegins_any (l p : List UInt8) (w : World) (hl : l.length ≤ 1125899906842624) (hp : p.length ≤ 1125899906842624) :
    Calls Tryd.prog 23 #[.string (bs l), .string (bs p)] w fun e w' => e = .returned (.bool (hasPrefix l p)) ∧ Below w.heap.size w w' := by
  obtain ⟨s, hs, hsz, _, hsg⟩ := str_name l
  obtain ⟨t, ht, htz, _, htg⟩ := str_name p
  rw [← hs, ← ht]
  have hs2 : s.size ≤ 1125899906842624 := by omega
  have ht2 : t.size ≤ 1125899906842624 := by omega
  have HG : Hid (∀ (j : Nat) (h : j < s.size), ((s[j]'h).toNat : Int) = ((l.getD j 0).toNat : Int)) := hsg
  have HG2 : Hid (∀ (j : Nat) (h : j < t.size), ((t[j]'h).toNat : Int) = ((p.getD j 0).toNat : Int)) := htg
  obtain ⟨q, hq⟩ : ∃ q, q = hasPrefix l p := ⟨_, rfl⟩
  rw [← hq]
  rw [hasPrefix_take, ← hsz, ← htz] at hq
  by_cases hlen : t.size ≤ s.size
  · rw [decide_eq_true hlen, Bool.true_and] at hq
    have HZ := Lib.hid hsz
    have HZ2 := Lib.hid htz
    have HQ0 : Hid (q = (l.take t.size == p.take t.size)) := by rw [htz, List.take_length, ← htz]; exact hq
    clear hs ht hsg htg hsz htz hl hp hq
    go_enter Tryd.func23, Tryd.ntmps23
    go_wp2
    go_loopw [5] (fun i wr => Below w.heap.size w wr ∧ ∃ k : Nat, k ≤ t.size ∧ i = .int .i64 k ∧ Hid ((l.take k == p.take k) = true)) (fun i _ => t.size - (intOf i).toNat)
    case atStart => exact ⟨Below.refl _ _, 0, Nat.zero_le _, rfl, rfl⟩
    case round =>
      obtain ⟨hb, k, hk, rfl, HK⟩ := hrel
      by_cases hlt : k < t.size
      · have hks : k < s.size := by omega
        have hget := HG.out k hks
        have hget2 := HG2.out k hlt
        obtain ⟨a, ha⟩ : ∃ a, a = l.getD k 0 := ⟨_, rfl⟩
        obtain ⟨b, hb2⟩ : ∃ b, b = p.getD k 0 := ⟨_, rfl⟩
        have hst := take_succ_eq l p k (by rw [← HZ.out]; exact hks) (by rw [← HZ2.out]; exact hlt)
        rw [HK.out, Bool.true_and] at hst
        rw [← ha, ← hb2] at hst
        rw [← ha] at hget
        rw [← hb2] at hget2
        have hz1 : (k : Int) < (s.size : Int) := by omega
        have hz2 : (k : Int) < (t.size : Int) := by omega
        by_cases hab : a = b
        · have hn : ((a.toNat : Int) != (b.toNat : Int)) = false := by rw [hab]; simp
          have HK2 : Hid ((l.take (k + 1) == p.take (k + 1)) = true) := by rw [hst, hab]; exact beq_self_eq_true b
          clear ha hb2 hst hab
          go_wp2
          go_quiet (fail)
          go_wp2
          go_roundw
          case rel => exact ⟨Below.drewN' hb _, k + 1, by omega, by go_num, HK2⟩
          case measure => simp [intOf]; omega
        · have hn : ((a.toNat : Int) != (b.toNat : Int)) = true := by
            rw [bne_iff_ne]
            intro e
            exact hab (UInt8.toNat_inj.1 (by omega))
          have hq : q = false := by
            rw [HQ0.out, beq_eq_false_iff_ne]
            intro e
            have h1 := congrArg (List.take (k + 1)) e
            rw [List.take_take, List.take_take, Nat.min_eq_left (by omega)] at h1
            have h2 := hst
            rw [h1, beq_self_eq_true] at h2
            exact hab (by simpa using h2.symm)
          have HQ := Lib.hid hq
          clear ha hb2 hst hab hq
          go_wp2
          go_quiet (fail)
          go_wp2
          go_ret
          exact ⟨by rw [HQ.out] <;> rfl, Below.drewN' hb _⟩
      · have hq : q = true := by
          have : k = t.size := by omega
          rw [HQ0.out, ← this]
          exact HK.out
        have HQ := Lib.hid hq
        clear hq
        go_wp2
        go_ret
        exact ⟨by rw [HQ.out] <;> rfl, hb⟩
  · rw [decide_eq_false hlen, Bool.false_and] at hq
    have HQ := Lib.hid hq
    clear hs ht hsg htg hsz htz hl hp hq
    go_enter Tryd.func23, Tryd.ntmps23
    go_wp2
    go_ret
    exact ⟨by rw [HQ.out] <;> rfl, Below.refl _ _⟩

set_option maxHeartbeats 1000000 in
theorem turn_any (k f t : List UInt8) (w : World) (hk : k.length ≤ 562949953421312) (hf : f.length ≤ 562949953421312) (ht : t.length ≤ 562949953421312) (hT : Tabs w) :
    Calls Tryd.prog 18 #[.string (bs k), .string (bs f), .string (bs t)] w fun e w' => e = .returned (strNum (turn k f t)) ∧ Below w.heap.size w w' := by
  have c1 : Calls Tryd.prog 15 #[.string (bs k), .string (bs f)] w fun e w' => e = .returned (.bool (hasPrefix k f)) ∧ Below w.heap.size w w' := by
    first
      | exact (begins_any k f w).mono fun e w' ⟨he, hw⟩ => ⟨he, by rw [hw]; exact Below.refl _ _⟩
      | exact refBegins_any k f w (by omega) (by omega)
  have c2 : ∀ l : List UInt8, l.length ≤ 1125899906842624 → ∀ W, Tabs W → Calls Tryd.prog 10 #[.string (bs l)] W fun e w' => e = .returned (.int .i64 (may l : Nat)) ∧ Below W.heap.size W w' := by
    intro l hl W hW
    first
      | exact may_any l W hl hW
      | exact (refMay_any l W hl).mono fun e w' ⟨he, hw⟩ => ⟨he, by rw [hw]; exact Below.refl _ _⟩
  obtain ⟨s, hs, hsz, _, _⟩ := str_name k
  obtain ⟨u, hu, huz, _, _⟩ := str_name f
  obtain ⟨v, hv, hvz, _, _⟩ := str_name t
  rw [← hs, ← hu] at c1
  rw [← hs, ← hu, ← hv]
  cases hp : hasPrefix k f with
  | false =>
    rw [hp] at c1
    have HC := Lib.hid c1
    have HE : Hid (strNum (turn k f t) = .tuple #[.string ⟨#[]⟩, .int .i64 12]) := by unfold turn; rw [hp, if_neg (by simp)]; rfl
    clear c1 c2 hs hsz hu huz hv hvz hk hf ht
    go_enter Tryd.func18, Tryd.ntmps18
    go_wp2_with fail
    ((with_reducible refine HC.out.mono ?_); rintro e w1 ⟨rfl, hb⟩)
    go_wp2
    go_ret2
    exact ⟨by rw [HE.out] <;> rfl, hb⟩
  | true =>
    rw [hp] at c1
    have hle : f.length ≤ k.length := by
      have := List.isPrefixOf_iff_prefix.1 (show f.isPrefixOf k = true from hp)
      exact this.length_le
    obtain ⟨z, hz⟩ : ∃ z, z = t ++ k.drop f.length := ⟨_, rfl⟩
    have hzl : z.length ≤ 1125899906842624 := by rw [hz, List.length_append, List.length_drop]; omega
    obtain ⟨x, hx⟩ : ∃ x, x = bs z := ⟨_, rfl⟩
    have ha : ∀ W, (Op.stringOp .add v (s.extract u.size s.size)).run Tryd.prog W = .ok (.string x) W := fun W => by
      refine add_run _ _ (by rw [ByteArray.size_extract]; omega) x ?_ W
      rw [hx, hz, hs, hu, hv, bs_size f, bs_drop, bs_append]
    have c3 := c2 z hzl
    rw [← hx] at c3
    have hus : (u.size : Int) ≤ (s.size : Int) := by omega
    have HC := Lib.hid c1
    have HM := Lib.hid c3
    have HE : Hid (turn k f t = if may z = 0 then (z, 0) else ([], may z)) := by unfold turn; rw [hp, if_pos rfl, ← hz]; rfl
    have HX := Lib.hid hx
    clear c1 c2 c3 hs hsz hu huz hv hvz hk hf ht hz hx hzl hle
    go_enter Tryd.func18, Tryd.ntmps18
    go_wp2_with fail
    ((with_reducible refine HC.out.mono ?_); rintro e w1 ⟨rfl, hb⟩)
    go_wp2_with fail
    ((with_reducible refine (HM.out w1 (tabs_below hT hb)).mono ?_); rintro e w2 ⟨rfl, hb2⟩)
    have k2 := bthen hb hb2
    by_cases h0 : may z = 0
    · have hn : (((may z : Nat) : Int) != 0) = false := by rw [h0]; rfl
      have HE2 : Hid (strNum (turn k f t) = .tuple #[.string x, .int .i64 0]) := by rw [HE.out, if_pos h0, HX.out]; rfl
      clear h0
      go_wp2
      go_ret2
      exact ⟨by rw [HE2.out] <;> rfl, k2⟩
    · have hn : (((may z : Nat) : Int) != 0) = true := by rw [bne_iff_ne]; omega
      have HE2 : Hid (strNum (turn k f t) = .tuple #[.string ⟨#[]⟩, .int .i64 (may z : Nat)]) := by rw [HE.out, if_neg h0]; rfl
      clear h0
      go_wp2
      go_ret2
      exact ⟨by rw [HE2.out] <;> rfl, k2⟩
set_option maxHeartbeats 1000000 in
theorem refTurn_any (k f t : List UInt8) (w : World) (hk : k.length ≤ 562949953421312) (hf : f.length ≤ 562949953421312) (ht : t.length ≤ 562949953421312) (hT : Tabs w) :
    Calls Tryd.prog 19 #[.string (bs k), .string (bs f), .string (bs t)] w fun e w' => e = .returned (strNum (turn k f t)) ∧ Below w.heap.size w w' := by
  have c1 : Calls Tryd.prog 23 #[.string (bs k), .string (bs f)] w fun e w' => e = .returned (.bool (hasPrefix k f)) ∧ Below w.heap.size w w' := by
    first
      | exact (begins_any k f w).mono fun e w' ⟨he, hw⟩ => ⟨he, by rw [hw]; exact Below.refl _ _⟩
      | exact refBegins_any k f w (by omega) (by omega)
  have c2 : ∀ l : List UInt8, l.length ≤ 1125899906842624 → ∀ W, Tabs W → Calls Tryd.prog 11 #[.string (bs l)] W fun e w' => e = .returned (.int .i64 (may l : Nat)) ∧ Below W.heap.size W w' := by
    intro l hl W hW
    first
      | exact may_any l W hl hW
      | exact (refMay_any l W hl).mono fun e w' ⟨he, hw⟩ => ⟨he, by rw [hw]; exact Below.refl _ _⟩
  obtain ⟨s, hs, hsz, _, _⟩ := str_name k
  obtain ⟨u, hu, huz, _, _⟩ := str_name f
  obtain ⟨v, hv, hvz, _, _⟩ := str_name t
  rw [← hs, ← hu] at c1
  rw [← hs, ← hu, ← hv]
  cases hp : hasPrefix k f with
  | false =>
    rw [hp] at c1
    have HC := Lib.hid c1
    have HE : Hid (strNum (turn k f t) = .tuple #[.string ⟨#[]⟩, .int .i64 12]) := by unfold turn; rw [hp, if_neg (by simp)]; rfl
    clear c1 c2 hs hsz hu huz hv hvz hk hf ht
    go_enter Tryd.func19, Tryd.ntmps19
    go_wp2_with fail
    ((with_reducible refine HC.out.mono ?_); rintro e w1 ⟨rfl, hb⟩)
    go_wp2
    go_ret2
    exact ⟨by rw [HE.out] <;> rfl, hb⟩
  | true =>
    rw [hp] at c1
    have hle : f.length ≤ k.length := by
      have := List.isPrefixOf_iff_prefix.1 (show f.isPrefixOf k = true from hp)
      exact this.length_le
    obtain ⟨z, hz⟩ : ∃ z, z = t ++ k.drop f.length := ⟨_, rfl⟩
    have hzl : z.length ≤ 1125899906842624 := by rw [hz, List.length_append, List.length_drop]; omega
    obtain ⟨x, hx⟩ : ∃ x, x = bs z := ⟨_, rfl⟩
    have ha : ∀ W, (Op.stringOp .add v (s.extract u.size s.size)).run Tryd.prog W = .ok (.string x) W := fun W => by
      refine add_run _ _ (by rw [ByteArray.size_extract]; omega) x ?_ W
      rw [hx, hz, hs, hu, hv, bs_size f, bs_drop, bs_append]
    have c3 := c2 z hzl
    rw [← hx] at c3
    have hus : (u.size : Int) ≤ (s.size : Int) := by omega
    have HC := Lib.hid c1
    have HM := Lib.hid c3
    have HE : Hid (turn k f t = if may z = 0 then (z, 0) else ([], may z)) := by unfold turn; rw [hp, if_pos rfl, ← hz]; rfl
    have HX := Lib.hid hx
    clear c1 c2 c3 hs hsz hu huz hv hvz hk hf ht hz hx hzl hle
    go_enter Tryd.func19, Tryd.ntmps19
    go_wp2_with fail
    ((with_reducible refine HC.out.mono ?_); rintro e w1 ⟨rfl, hb⟩)
    go_wp2_with fail
    ((with_reducible refine (HM.out w1 (tabs_below hT hb)).mono ?_); rintro e w2 ⟨rfl, hb2⟩)
    have k2 := bthen hb hb2
    by_cases h0 : may z = 0
    · have hn : (((may z : Nat) : Int) != 0) = false := by rw [h0]; rfl
      have HE2 : Hid (strNum (turn k f t) = .tuple #[.string x, .int .i64 0]) := by rw [HE.out, if_pos h0, HX.out]; rfl
      clear h0
      go_wp2
      go_ret2
      exact ⟨by rw [HE2.out] <;> rfl, k2⟩
    · have hn : (((may z : Nat) : Int) != 0) = true := by rw [bne_iff_ne]; omega
      have HE2 : Hid (strNum (turn k f t) = .tuple #[.string ⟨#[]⟩, .int .i64 (may z : Nat)]) := by rw [HE.out, if_neg h0]; rfl
      clear h0
      go_wp2
      go_ret2
      exact ⟨by rw [HE2.out] <;> rfl, k2⟩
end Go.Proofs.YtddncmbibkibeaaDoor
