import Derived.Test.YthaikagelloeoaaDoorValFit
namespace Go.Proofs.YthaikagelloeoaaDoor
open Go.RowKit Val

theorem info_val3 : (Tryd.prog.info? 26).map (fun i => (i.zero, i.size, i.bytes)) = some (some (.agg #[.int .i64 0, .bool false, .int .i64 0, .string ⟨#[]⟩, .slice none 0 0, .slice none 0 0]), 6, 88) := by kernel_rfl
/-- A list of values is handed back. -/
def Listed (w : World) (n : Nat) (l : List Val) (e : Ending) (w' : World) : Prop := ∃ A c, e = .returned (.slice A l.length c) ∧ l.length ≤ 140737488351232 ∧ LIn w' w'.heap.size n A l ∧ Below w.heap.size w w'
theorem listed_own {w w' : World} {n B base : Nat} {l : List Val} {v : Value} {xs : List Value} {e : TypeId} (hown : w'.ownsRow base e 6 v l.length xs) (hr : RowsIn w B n xs l) (hB : B ≤ w.heap.size) (hl : l.length ≤ 140737488351232) (hb : Below w.heap.size w w') : Listed w n l (.returned v) w' := by
  obtain ⟨A, c, rfl, _, _, ha⟩ := own_slice hown
  exact ⟨A, c, rfl, hl, LIn.of_rows ha (hr.keep (by have := hb.size; omega) fun p hp => hb.cell (by omega)), hb⟩
theorem kids_len {n : Nat} {v : Val} (h : Fit (n + 1) v) : v.kids.length * 88 ≤ 140737488351232 := by
  obtain ⟨h1, h2, _⟩ := h
  unfold kids
  split
  · exact h1
  · split
    · rw [List.length_map]; omega
    · simp

set_option maxRecDepth 100000 in
set_option maxHeartbeats 4000000 in
theorem within_any (n : Nat) (cs : List Value) (v : Val) (w : World) (hv : VIn w w.heap.size (n + 1) cs v) (hf : Fit (n + 1) v) :
    Calls Tryd.prog 26 #[.agg cs.toArray] w (Listed w n v.kids) := by
  obtain ⟨i0, hi, hz0, hz1, hz2⟩ := info_parts info_val3
  obtain ⟨n', A1, c1, A2, c2, e, rfl, _, _, _, hl, ho, _, _, hL, hO⟩ := hv.open
  obtain rfl : n = n' := by omega
  have hkl := kids_len hf
  obtain ⟨w1, hw1⟩ : ∃ w1, w.alloc (.cells #[.int .i64 v.k, .bool v.b, .int .i64 v.i, .string (bs v.s), .slice A1 v.l.length c1, .slice A2 v.o.length c2] 26) = w1 := ⟨_, rfl⟩
  have b1 : Below w.heap.size w w1 := by rw [← hw1]; exact (Below.refl _ w).alloc (Nat.le_refl _) _
  have z1 : w1.heap.size = w.heap.size + 1 := by rw [← hw1]; exact World.size_alloc _ _
  have hbox : ∀ W, Below w1.heap.size w1 W → W.cell? ⟨w.heap.size, 0, none⟩ = some (.int .i64 v.k) ∧ W.cell? ⟨w.heap.size, 1, none⟩ = some (.bool v.b) ∧ W.cell? ⟨w.heap.size, 2, none⟩ = some (.int .i64 v.i) ∧ W.cell? ⟨w.heap.size, 3, none⟩ = some (.string (bs v.s)) ∧ W.cell? ⟨w.heap.size, 4, none⟩ = some (.slice A1 v.l.length c1) ∧ W.cell? ⟨w.heap.size, 5, none⟩ = some (.slice A2 v.o.length c2) := fun W hW => by
    rw [z1, ← hw1] at hW
    exact box6 hW
  have HBOX := Lib.hid hbox
  obtain ⟨q0, q1, q2, q3, q4, q5⟩ := hbox w1 (Below.refl _ _)
  have HW := Lib.hid hw1
  obtain ⟨l, hkl2⟩ : ∃ l, l = v.kids := ⟨_, rfl⟩
  rw [← hkl2] at hkl ⊢
  clear hbox hw1
  by_cases k5 : v.k = 5
  · have k5' : (v.k == 5) = true := by rw [k5]; rfl
    have k6' : (v.k == 6) = false := by rw [k5]; rfl
    have hk : l = v.l := by rw [hkl2]; unfold kids; rw [if_pos k5]
    obtain ⟨xs, hat, hrows⟩ := LIn.rows hL
    rw [← hk] at hat hrows
    have HK := Lib.hid (show v.l.length = l.length by rw [hk])
    have H1 := Lib.hid hrows.cells1
    have HR := Lib.hid hrows
    have HZ1 := Lib.hid z1
    clear hk hkl2 k5 hL hO hrows hv hf z1 hl
    go_enter Tryd.func26, Tryd.ntmps26
    go_wp2_with (at_builtin; refine wpList_append_from _ rfl _ _ 23 rfl w.heap.size 26 i0 _ 6 88 Tryd.underlying23 hi hz0 hz1 hz2 rfl (by decide) _ 0 [] rfl (World.ownsRow_nil _ _ _ _) w.heap.size A1 l.length c1 xs (by rw [← HK.out]; rfl) (hat.alloc (Nat.le_refl _) _) H1.out (by unfold maxLen; omega) (by omega) (by simp) ?_; intro v' w2 hown hg _; obtain ⟨q0, q1, q2, q3, q4, q5⟩ := box6 (grown_below (World.ownsRow_nil _ (w.heap.size + 1) 26 6) hg (by simp)))
    simp only [Nat.zero_add, List.nil_append] at hown
    have b2 : Below w.heap.size w w2 := ((Below.refl _ w).alloc (Nat.le_refl _) _).trans (grown_below (World.ownsRow_nil _ _ 26 6) hg (by simp))
    go_ret
    exact listed_own hown HR.out (Nat.le_refl _) (by omega) b2
  · have k5' : (v.k == 5) = false := by simp [k5]
    by_cases k6 : v.k = 6
    · have k6' : (v.k == 6) = true := by rw [k6]; rfl
      have hk : l = v.o.map (·.2) := by rw [hkl2]; unfold kids; rw [if_neg k5, if_pos k6]
      have hlen : v.o.length = l.length := by rw [hk, List.length_map]
      have hO' : ∀ j x, l[j]? = some x → ∃ k g p ds, A2 = some ⟨g, p, none⟩ ∧ g < w.heap.size ∧ w.rangeAt g (p + j * 7) (.string k :: ds) ∧ VIn w w.heap.size n ds x := fun j x hx => by
        rw [hk, List.getElem?_map] at hx
        obtain ⟨m, hm, rfl⟩ := Option.map_eq_some_iff.1 hx
        obtain ⟨g, p, ds, e1, e2, e3, _, e5⟩ := hO j m hm
        exact ⟨_, g, p, ds, e1, e2, e3, e5⟩
      have HO := Lib.hid hO'
      have HLEN := Lib.hid hlen
      clear hk hkl2 k5 k6 hL hO hO' hlen hv hf hl
      go_enter Tryd.func26, Tryd.ntmps26
      go_wp2_with fail
      rw [HW.out]
      go_loopw [3, 4] (fun o i wr => ∃ (j : Nat) (xs : List Value), j ≤ v.o.length ∧ i = .int .i64 j ∧ wr.ownsRow w1.heap.size 26 6 o j xs ∧ Hid (RowsIn w w.heap.size n xs (l.take j)) ∧ Below w1.heap.size w1 wr) (fun _ i _ => v.o.length - (intOf i).toNat)
      case atStart => exact ⟨0, [], Nat.zero_le _, rfl, World.ownsRow_nil _ _ _ _, RowsIn.nil _ _ _, Below.refl _ _⟩
      case round =>
        obtain ⟨j, xs, hj, rfl, hown, HR, hb⟩ := hrel
        clear q0 q1 q2 q3 q4 q5
        obtain ⟨q0, q1, q2, q3, q4, q5⟩ := HBOX.out wr hb
        by_cases hlt : j < v.o.length
        · have hj2 : j + 1 ≤ l.length := by rw [← HLEN.out]; exact hlt
          obtain ⟨k, g, p, ds, hA, hgB, hr, hxi⟩ := HO.out j l[j] (List.getElem?_eq_getElem hj2)
          obtain ⟨_, B1, e1, B2, e2, -, hds, -⟩ := hxi.open
          have HR2 := Lib.hid ((List.take_succ_eq_append_getElem hj2).symm ▸ hds ▸ HR.out.snoc hxi)
          have h1 : ∀ u ∈ [Value.int .i64 l[j].k, .bool l[j].b, .int .i64 l[j].i, .string (bs l[j].s), .slice B1 l[j].l.length e1, .slice B2 l[j].o.length e2], u.oneCell' = true := hds ▸ hxi.cells1
          have H1 := Lib.hid h1
          subst hds
          obtain ⟨a0, a1, a2, a3, a4, a5, a6⟩ := range7 (w := wr) (fun i u hu => (hb.cell (p := ⟨g, p + j * 7 + i, none⟩) (by show g < _; omega)).trans ((b1.cell (p := ⟨g, p + j * 7 + i, none⟩) hgB).trans (hr i u hu)))
          subst hA
          clear hr hxi HR h1
          go_wp2_with (at_builtin; refine wpList_append_from _ rfl _ _ 23 rfl w1.heap.size 26 i0 _ 6 88 Tryd.underlying23 hi hz0 hz1 hz2 rfl (by decide) _ j xs rfl (hown.alloc _) (wr.heap.size + 1) (some ⟨wr.heap.size, 0, none⟩) 1 1 [.int .i64 l[j].k, .bool l[j].b, .int .i64 l[j].i, .string (bs l[j].s), .slice B1 l[j].l.length e1, .slice B2 l[j].o.length e2] rfl (At.new wr _ _ 6 1 rfl) H1.out (by unfold maxLen; omega) (by omega) (by simp; have := hb.size; omega) ?_; intro v' w2 hown2 hg _)
          have hb2 : Below w1.heap.size w1 w2 := (hb.alloc hb.size _).trans (grown_below (hown.alloc _) hg (by simp; have := hb.size; omega))
          clear hg hown
          go_roundw
          case rel => exact ⟨j + 1, _, by omega, by go_num, hown2, HR2, hb2⟩
          case measure => simp [intOf]; omega
        · have hj2 : l.take j = l := List.take_of_length_le (by rw [← HLEN.out]; omega)
          have hj3 : j = l.length := by rw [← HLEN.out]; omega
          rw [hj2] at HR
          subst hj3
          clear hj2
          go_wp2
          go_ret
          exact listed_own (own_base hown b1.size) HR.out (Nat.le_refl _) (by omega) (b1.trans (hb.mono b1.size))
    · have k6' : (v.k == 6) = false := by simp [k6]
      have hk : l = [] := by rw [hkl2]; unfold kids; rw [if_neg k5, if_neg k6]
      subst hk
      clear hkl2 k5 k6 hL hO hv hf hl
      go_enter Tryd.func26, Tryd.ntmps26
      go_wp2
      go_ret
      exact listed_own (World.ownsRow_nil _ w.heap.size 26 6) (RowsIn.nil w w.heap.size n) (Nat.le_refl _) (by simp) ((Below.refl _ w).alloc (Nat.le_refl _) _)
end Go.Proofs.YthaikagelloeoaaDoor
