import Derived.Test.YthaikagelloeoaaDoorValWithin
namespace Go.Proofs.YthaikagelloeoaaDoor
open Go.RowKit Val

theorem kids_fit {n : Nat} {v : Val} (h : Fit (n + 1) v) : ∀ x ∈ v.kids, Fit n x := by
  obtain ⟨_, _, h3, h4⟩ := h
  unfold kids
  split
  · exact h3
  · split
    · intro x hx
      obtain ⟨m, hm, rfl⟩ := List.mem_map.1 hx
      exact h4 m hm
    · intro x hx; cases hx

theorem ih_at {f : FuncId} {n : Nat} {sp : Nat → Val → Int} (ih : ∀ (cs : List Value) (v : Val) (w : World), VIn w w.heap.size n cs v → Fit n v → Calls Tryd.prog f #[.agg cs.toArray] w fun e w' => e = .returned (.int .i64 (sp n v)) ∧ Below w.heap.size w w')
    {cs : List Value} {x : Val} {w : World} {d : Int} (hx : VIn w w.heap.size n cs x) (hf : Fit n x) (hd : d = sp n x) : Calls Tryd.prog f #[.agg cs.toArray] w fun e w' => e = .returned (.int .i64 d) ∧ Below w.heap.size w w' := by
  rw [hd]; exact ih cs x w hx hf

set_option maxRecDepth 100000 in
set_option maxHeartbeats 4000000 in
theorem refDeep_any : ∀ (n : Nat) (cs : List Value) (v : Val) (w : World), VIn w w.heap.size n cs v → Fit n v → Calls Tryd.prog 23 #[.agg cs.toArray] w fun e w' => e = .returned (.int .i64 (deep n v)) ∧ Below w.heap.size w w' := by
  intro n
  induction n with
  | zero => intro cs v w h; exact absurd h (by simp [VIn])
  | succ n ih =>
    intro cs v w hv hf
    obtain ⟨n', A1, c1, A2, c2, e, rfl, -⟩ := hv.open
    obtain ⟨q0, hq0⟩ : ∃ q0, q0 = deep (n + 1) v := ⟨_, rfl⟩
    obtain ⟨l, hl⟩ : ∃ l, l = v.kids := ⟨_, rfl⟩
    have HE : Hid (∀ q, q = foldK stepD (deep n) 0 l → q0 = wrap64 (q + 1)) := by
      intro q hq
      rw [hq0, hq, hl]
      rfl
    have hw := fun W (hW : Below w.heap.size w W) => within_any n _ v W (hv.then hW) hf
    have hfl : ∀ x ∈ l, Fit n x := by rw [hl]; exact kids_fit hf
    rw [← hl] at hw
    rw [← hq0]
    have HW := Lib.hid hw
    have IH := Lib.hid ih
    have HF := Lib.hid hfl
    have b1 : Below w.heap.size w (w.alloc (.cells #[.int .i64 v.k, .bool v.b, .int .i64 v.i, .string (bs v.s), .slice A1 v.l.length c1, .slice A2 v.o.length c2] 26)) := (Below.refl _ w).alloc (Nat.le_refl _) _
    clear hw hq0 hl hv hf ih hfl e
    go_enter Tryd.func23, Tryd.ntmps23
    go_wp2_with fail
    ((with_reducible refine (HW.out _ b1).mono ?_); rintro e w2 ⟨A, c, rfl, hlen, hL, b2⟩)
    have b3 := bthen b1 b2
    have HL := Lib.hid hL
    clear hL b1 b2
    go_wp2_with fail
    go_loopw [3, 5] (fun m i wr => ∃ (j : Nat) (q : Int), j ≤ l.length ∧ i = .int .i64 j ∧ m = .int .i64 q ∧ Hid (q = foldK stepD (deep n) 0 (l.take j)) ∧ Below w2.heap.size w2 wr) (fun _ i _ => l.length - (intOf i).toNat)
    case atStart => exact ⟨0, 0, Nat.zero_le _, rfl, rfl, rfl, Below.refl _ _⟩
    case round =>
      obtain ⟨j, q, hj, rfl, rfl, HQ, hb⟩ := hrel
      by_cases hlt : j < l.length
      · obtain ⟨x, hx⟩ : ∃ x, l[j]? = some x := ⟨_, List.getElem?_eq_getElem hlt⟩
        obtain ⟨g, p, ds, rfl, hgB, hr, hxi⟩ := HL.out j x hx
        obtain ⟨_, B1, e1, B2, e2, -, rfl, -⟩ := hxi.open
        have hst := foldK_take stepD (deep n) 0 l j x hx
        obtain ⟨d, hd⟩ : ∃ d, d = deep n x := ⟨_, rfl⟩
        have HC := Lib.hid (ih_at IH.out (hxi.then hb) (HF.out x (List.mem_of_getElem? hx)) hd)
        rw [← hd, ← HQ.out] at hst
        have HS := Lib.hid hst
        obtain ⟨a0, a1, a2, a3, a4, a5⟩ := range6 (w := wr) (fun i u hu => (hb.cell (p := ⟨g, p + j * 6 + i, none⟩) hgB).trans (hr i u hu))
        clear hst hd hx hr hxi HQ
        go_wp2_with fail
        ((with_reducible refine HC.out.mono ?_); rintro e w4 ⟨rfl, b4⟩)
        have b5 := bthen hb b4
        clear a0 a1 a2 a3 a4 a5 HC b4 hb
        by_cases hqd : q < d
        · have HS2 := Lib.hid (HS.out.trans (show stepD q d = d from Int.max_eq_right (by omega)))
          clear HS
          go_wp2
          go_roundw
          case rel => exact ⟨j + 1, d, by omega, by go_num, rfl, HS2.out.symm, b5⟩
          case measure => simp [intOf]; omega
        · have HS2 := Lib.hid (HS.out.trans (show stepD q d = q from Int.max_eq_left (by omega)))
          clear HS
          go_wp2
          go_roundw
          case rel => exact ⟨j + 1, q, by omega, by go_num, rfl, HS2.out.symm, b5⟩
          case measure => simp [intOf]; omega
      · have hq : q = foldK stepD (deep n) 0 l := by rw [HQ.out, List.take_of_length_le (by omega)]
        have HQ2 := Lib.hid (HE.out q hq)
        have hb5 := bthen b3 hb
        clear hq HQ hb
        go_wp2
        go_ret
        exact ⟨by rw [HQ2.out] <;> rfl, hb5⟩
set_option maxRecDepth 100000 in
set_option maxHeartbeats 4000000 in
theorem refSize_any : ∀ (n : Nat) (cs : List Value) (v : Val) (w : World), VIn w w.heap.size n cs v → Fit n v → Calls Tryd.prog 25 #[.agg cs.toArray] w fun e w' => e = .returned (.int .i64 (size n v)) ∧ Below w.heap.size w w' := by
  intro n
  induction n with
  | zero => intro cs v w h; exact absurd h (by simp [VIn])
  | succ n ih =>
    intro cs v w hv hf
    obtain ⟨n', A1, c1, A2, c2, e, rfl, -⟩ := hv.open
    obtain ⟨q0, hq0⟩ : ∃ q0, q0 = size (n + 1) v := ⟨_, rfl⟩
    obtain ⟨l, hl⟩ : ∃ l, l = v.kids := ⟨_, rfl⟩
    have HE : Hid (∀ q, q = foldK stepS (size n) 1 l → q0 = q) := by
      intro q hq
      rw [hq0, hq, hl]
      rfl
    have hw := fun W (hW : Below w.heap.size w W) => within_any n _ v W (hv.then hW) hf
    have hfl : ∀ x ∈ l, Fit n x := by rw [hl]; exact kids_fit hf
    rw [← hl] at hw
    rw [← hq0]
    have HW := Lib.hid hw
    have IH := Lib.hid ih
    have HF := Lib.hid hfl
    have b1 : Below w.heap.size w (w.alloc (.cells #[.int .i64 v.k, .bool v.b, .int .i64 v.i, .string (bs v.s), .slice A1 v.l.length c1, .slice A2 v.o.length c2] 26)) := (Below.refl _ w).alloc (Nat.le_refl _) _
    clear hw hq0 hl hv hf ih hfl e
    go_enter Tryd.func25, Tryd.ntmps25
    go_wp2_with fail
    ((with_reducible refine (HW.out _ b1).mono ?_); rintro e w2 ⟨A, c, rfl, hlen, hL, b2⟩)
    have b3 := bthen b1 b2
    have HL := Lib.hid hL
    clear hL b1 b2
    go_wp2_with fail
    go_loopw [3, 5] (fun m i wr => ∃ (j : Nat) (q : Int), j ≤ l.length ∧ i = .int .i64 j ∧ m = .int .i64 q ∧ Hid (q = foldK stepS (size n) 1 (l.take j)) ∧ Below w2.heap.size w2 wr) (fun _ i _ => l.length - (intOf i).toNat)
    case atStart => exact ⟨0, 1, Nat.zero_le _, rfl, rfl, rfl, Below.refl _ _⟩
    case round =>
      obtain ⟨j, q, hj, rfl, rfl, HQ, hb⟩ := hrel
      by_cases hlt : j < l.length
      · obtain ⟨x, hx⟩ : ∃ x, l[j]? = some x := ⟨_, List.getElem?_eq_getElem hlt⟩
        obtain ⟨g, p, ds, rfl, hgB, hr, hxi⟩ := HL.out j x hx
        obtain ⟨_, B1, e1, B2, e2, -, rfl, -⟩ := hxi.open
        have hst := foldK_take stepS (size n) 1 l j x hx
        obtain ⟨d, hd⟩ : ∃ d, d = size n x := ⟨_, rfl⟩
        have HC := Lib.hid (ih_at IH.out (hxi.then hb) (HF.out x (List.mem_of_getElem? hx)) hd)
        rw [← hd, ← HQ.out] at hst
        have HS := Lib.hid hst
        obtain ⟨a0, a1, a2, a3, a4, a5⟩ := range6 (w := wr) (fun i u hu => (hb.cell (p := ⟨g, p + j * 6 + i, none⟩) hgB).trans (hr i u hu))
        clear hst hd hx hr hxi HQ
        go_wp2_with fail
        ((with_reducible refine HC.out.mono ?_); rintro e w4 ⟨rfl, b4⟩)
        have b5 := bthen hb b4
        clear a0 a1 a2 a3 a4 a5 HC b4 hb
        go_wp2
        go_roundw
        case rel => exact ⟨j + 1, stepS q d, by omega, by go_num, rfl, HS.out.symm, b5⟩
        case measure => simp [intOf]; omega
      · have hq : q = foldK stepS (size n) 1 l := by rw [HQ.out, List.take_of_length_le (by omega)]
        have HQ2 := Lib.hid (HE.out q hq)
        have hb5 := bthen b3 hb
        clear hq HQ hb
        go_wp2
        go_ret
        exact ⟨by rw [HQ2.out] <;> rfl, hb5⟩
end Go.Proofs.YthaikagelloeoaaDoor
