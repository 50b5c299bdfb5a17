import Derived.Test.YtponmokiogdejaaNetRefOps
namespace Go.Proofs.Ytponmokiogdejaa
open Go.RowKit Crc
set_option linter.unusedSimpArgs false
set_option linter.unusedVariables false

set_option maxRecDepth 100000 in
set_option maxHeartbeats 8000000 in
theorem refSpoil_range (S : Nat → Prop) (r0 k : Nat) (L : List Let) (a m : Int) (w : World) (h : RefO w S r0 L) (hk : k < L.length) (ha : a < 0 ∨ (L[k].fr.length : Int) ≤ a) :
    Calls Try.prog 24 #[.pointer (some ⟨r0, 0, none⟩), .int .i64 (k : Int), .int .i64 a, .int .u8 m] w (ErrRef w S r0 L 17) := by
  have HS := Lib.hid fun W (hW : Below w.heap.size w W) => ref_same h hW
  obtain ⟨A, c, xs, hn⟩ := h
  have c1 := refIs_any k w hn.1
  rw [show decide (0 ≤ (k : Int) ∧ (k : Int) < (L.length : Int)) = true by simp; omega] at c1
  have HC := Lib.hid c1
  have q0 := hn.1
  obtain ⟨b, B, d, rfl, hSb, hbs, hbr, ⟨a0, a1, a2⟩, hlet, hto, hfr, hd, hF⟩ := hn.row hk
  obtain ⟨x, hx⟩ : ∃ x, x = L[k] := ⟨_, rfl⟩
  rw [← hx] at a0 a1 a2 hfr ha
  clear hn c1 hx hF hlet hto hd
  rcases ha with ha | ha
  · go_enter Try.func24, Try.ntmps24
    go_wp2_with fail
    ((with_reducible refine HC.out.mono ?_); rintro e w1 ⟨rfl, rfl⟩)
    go_wp2
    go_ret
    exact ⟨rfl, HS.out _ (Below.refl _ _)⟩
  · have ha0 : ¬ a < 0 := by omega
    have ha1 : decide (a < 0) = false := by simp; omega
    go_enter Try.func24, Try.ntmps24
    go_wp2_with fail
    ((with_reducible refine HC.out.mono ?_); rintro e w1 ⟨rfl, rfl⟩)
    go_wp2
    go_ret
    exact ⟨rfl, HS.out _ (Below.refl _ _)⟩

set_option maxRecDepth 100000 in
set_option maxHeartbeats 8000000 in
theorem refSpoil_zero (S : Nat → Prop) (r0 k at_ : Nat) (L : List Let) (w : World) (h : RefO w S r0 L) (hk : k < L.length) (ha : at_ < L[k].fr.length) :
    Calls Try.prog 24 #[.pointer (some ⟨r0, 0, none⟩), .int .i64 (k : Int), .int .i64 (at_ : Int), .int .u8 0] w (ErrRef w S r0 L 2) := by
  have HS := Lib.hid fun W (hW : Below w.heap.size w W) => ref_same h hW
  obtain ⟨A, c, xs, hn⟩ := h
  have c1 := refIs_any k w hn.1
  rw [show decide (0 ≤ (k : Int) ∧ (k : Int) < (L.length : Int)) = true by simp; omega] at c1
  have HC := Lib.hid c1
  have q0 := hn.1
  obtain ⟨b, B, d, rfl, hSb, hbs, hbr, ⟨a0, a1, a2⟩, hlet, hto, hfr, hd, hF⟩ := hn.row hk
  obtain ⟨x, hx⟩ : ∃ x, x = L[k] := ⟨_, rfl⟩
  rw [← hx] at a0 a1 a2 hfr ha
  clear hn c1 hx hF hlet hto hd
  go_enter Try.func24, Try.ntmps24
  go_wp2_with fail
  ((with_reducible refine HC.out.mono ?_); rintro e w1 ⟨rfl, rfl⟩)
  go_wp2
  go_ret
  exact ⟨rfl, HS.out _ (Below.refl _ _)⟩

set_option maxRecDepth 100000 in
set_option maxHeartbeats 8000000 in
theorem refSpoil_state (S : Nat → Prop) (r0 k at_ : Nat) (L : List Let) (m : UInt8) (w : World) (h : RefO w S r0 L) (hk : k < L.length) (ha : at_ < L[k].fr.length) (hm : m ≠ 0) (hsp : L[k].sp = true) :
    Calls Try.prog 24 #[.pointer (some ⟨r0, 0, none⟩), .int .i64 (k : Int), .int .i64 (at_ : Int), u8v m] w (ErrRef w S r0 L 13) := by
  have HS := Lib.hid fun W (hW : Below w.heap.size w W) => ref_same h hW
  obtain ⟨A, c, xs, hn⟩ := h
  have c1 := refIs_any k w hn.1
  rw [show decide (0 ≤ (k : Int) ∧ (k : Int) < (L.length : Int)) = true by simp; omega] at c1
  have HC := Lib.hid c1
  have q0 := hn.1
  obtain ⟨b, B, d, rfl, hSb, hbs, hbr, ⟨a0, a1, a2⟩, hlet, hto, hfr, hd, hF⟩ := hn.row hk
  obtain ⟨x, hx⟩ : ∃ x, x = L[k] := ⟨_, rfl⟩
  rw [hsp] at a2
  rw [← hx] at a0 a1 hfr ha
  have hm1 : (((m.toNat : Nat) : Int) == 0) = false := by
    rw [beq_eq_false_iff_ne]; intro e; exact hm (UInt8.toNat_inj.1 (by simpa using e))
  have hm2 : (m.toNat : Int) ≠ 0 := by intro e; exact hm (UInt8.toNat_inj.1 (by simpa using e))
  clear hn c1 hx hF hlet hto hd hsp
  unfold u8v
  go_enter Try.func24, Try.ntmps24
  go_wp2_with fail
  ((with_reducible refine HC.out.mono ?_); rintro e w1 ⟨rfl, rfl⟩)
  go_wp2
  go_ret
  exact ⟨rfl, HS.out _ (Below.refl _ _)⟩

set_option maxRecDepth 100000 in
set_option maxHeartbeats 8000000 in
theorem refSpoil_good (S : Nat → Prop) (r0 k at_ : Nat) (L : List Let) (m : UInt8) (w : World) (h : RefO w S r0 L) (hk : k < L.length) (hL : L.length ≤ 1000000) (ha : at_ < L[k].fr.length) (hm : m ≠ 0) (hsp : L[k].sp = false) :
    Calls Try.prog 24 #[.pointer (some ⟨r0, 0, none⟩), .int .i64 (k : Int), .int .i64 (at_ : Int), u8v m] w (ErrRef w S r0 (L.set k ⟨L[k].to, L[k].fr.set at_ (L[k].fr.getD at_ 0 ^^^ m), true⟩) 0) := by
  obtain ⟨i0, hi, hz0, hz1, hz2⟩ := info_parts info_letter
  obtain ⟨A, c, xs, hn⟩ := h
  have c1 := refIs_any k w hn.1
  rw [show decide (0 ≤ (k : Int) ∧ (k : Int) < (L.length : Int)) = true by simp; omega] at c1
  have HC := Lib.hid c1
  have q0 := hn.1
  have qf := hn.2.1
  have hr0 := hn.2.2.2.2.2.2.1
  have hat := hn.at
  have hS := hn.2.2.2.2.2.2.2
  have hrow := hn.2.2.2.1
  have one := one_lets hrow
  obtain ⟨b, B, d, rfl, hSb, hbs, hbr, ⟨a0, a1, a2⟩, hlet, hto, hfr, hd, hF⟩ := hn.row hk
  have HN := Lib.hid hn
  obtain ⟨x, hx⟩ : ∃ x, x = L[k] := ⟨_, rfl⟩
  rw [hsp] at a2
  rw [← hx] at a0 a1 hfr ha hF ⊢
  have hF0 := hF.at (B := w.heap.size) hS
  have HO := Lib.hid (nown_row B d w.heap.size x.fr w hF0 hfr)
  have hm1 : (((m.toNat : Nat) : Int) == 0) = false := by
    rw [beq_eq_false_iff_ne]; intro e; exact hm (UInt8.toNat_inj.1 (by simpa using e))
  have hm2 : (m.toNat : Int) ≠ 0 := by intro e; exact hm (UInt8.toNat_inj.1 (by simpa using e))
  have HX := Lib.hid hx
  have HF := Lib.hid hF
  clear hn c1 hx hF hlet hsp hF0
  unfold u8v
  go_enter Try.func24, Try.ntmps24
  go_wp2_with fail
  ((with_reducible refine HC.out.mono ?_); rintro e w1 ⟨rfl, rfl⟩)
  clear HC
  go_wp2_with fail
  ((with_reducible refine HO.out.mono ?_); rintro e w2 ⟨v2, rfl, hown2, b2⟩)
  obtain ⟨A2, c2, rfl, hc2, _, hat2⟩ := own_slice hown2
  obtain ⟨g, cap, hv, hg, hlt⟩ := hown2.form (by omega)
  injection hv with hA _ hcc
  subst hA hcc
  have e2 := hown2.cellAt at_ (by omega)
  rw [u8v_map_get _ _ ha] at e2
  have f2 := hown2.frozenAt at_
  obtain ⟨y, hy⟩ : ∃ y, y = x.fr[at_] := ⟨_, rfl⟩
  rw [← hy] at e2
  have R1 := xor_u8 y m
  obtain ⟨q, hq⟩ : ∃ q, q = y ^^^ m := ⟨_, rfl⟩
  rw [← hq] at R1
  have hlen2 : x.fr.length = (x.fr.map u8v).length := by simp
  have hown3 := (hown2.stored at_ (.int .u8 (q.toNat : Int))).1
  have hset : (x.fr.map u8v).set at_ (.int .u8 (q.toNat : Int)) = (x.fr.set at_ (x.fr.getD at_ 0 ^^^ m)).map u8v := by
    have e : x.fr.getD at_ 0 = y := by rw [hy]; simp [List.getD, ha]
    rw [List.map_set, e, ← hq]; rfl
  have HS := Lib.hid hset
  obtain ⟨w3, hw3⟩ : ∃ w3, w2.setCell ⟨g, at_, none⟩ (.int .u8 (q.toNat : Int)) = w3 := ⟨_, rfl⟩
  rw [hw3] at hown3
  have b3 : Below w.heap.size w w3 := by rw [← hw3]; exact b2.setCell hg _
  have q03 := (b3.cell (p := ⟨r0, 0, none⟩) hr0).trans q0
  have qf3 := (b3.frozen (p := ⟨r0, 0, none⟩) hr0).trans qf
  have hat3 := hat.below b3 (Nat.le_refl _)
  clear hat2 hset hy hq hlen2 hown2 HO
  go_wp2_with (at_builtin; refine wpList_append_from _ rfl _ _ 25 rfl w3.heap.size 47 i0 _ 3 40 Try.underlying25 hi hz0 hz1 hz2 rfl (by decide) (.slice none 0 0) 0 [] rfl (World.ownsRow_nil _ _ _ _) w.heap.size (some ⟨b, 0, none⟩) L.length c xs rfl hat3 one (by unfold maxLen; omega) (by omega) (Nat.le_refl _) ?_; intro v4 w4 hown4 hg4 hat4)
  have b4 : Below w3.heap.size w3 w4 := grown_below (World.ownsRow_nil w3 w3.heap.size 47 3) hg4 (Nat.le_refl _)
  rw [Nat.zero_add, List.nil_append] at hown4
  obtain ⟨A4, c4, rfl, hc4, _, _⟩ := own_slice hown4
  obtain ⟨g4, cap4, hv, hg4', hlt4⟩ := hown4.form (by omega)
  injection hv with hA _ hcc
  subst hA hcc
  clear hw3 e2 f2 R1 q0 qf b2 hg4 hat4
  have hxs := hrow.1
  have hxk := hrow.2 k _ (List.getElem?_eq_getElem hk)
  rw [← HX.out] at hxk
  obtain ⟨B', d', hrk, -⟩ := hxk
  have hk0 : xs[k * 3]? = some (.int .u64 (x.to : Int)) := by
    have : ((xs.drop (k * 3)).take 3)[0]? = some (.int .u64 (x.to : Int)) := by rw [hrk]; rfl
    rw [List.getElem?_take, if_pos (by omega), List.getElem?_drop] at this
    simpa using this
  have z0 : w4.cell? ⟨g4, k * 3, none⟩ = some (.int .u64 (x.to : Int)) := by rw [hown4.cellAt _ (by omega), hk0]
  have z1 : ∃ u, w4.cell? ⟨g4, k * 3 + 1, none⟩ = some u := ⟨xs[k * 3 + 1]'(by omega), by rw [hown4.cellAt _ (by omega), List.getElem?_eq_getElem]⟩
  have z2 : ∃ u, w4.cell? ⟨g4, k * 3 + 2, none⟩ = some u := ⟨xs[k * 3 + 2]'(by omega), by rw [hown4.cellAt _ (by omega), List.getElem?_eq_getElem]⟩
  obtain ⟨u1, z1⟩ := z1
  obtain ⟨u2, z2⟩ := z2
  have y0 := hown4.frozenAt (k * 3)
  have y1 := hown4.frozenAt (k * 3 + 1)
  have y2 := hown4.frozenAt (k * 3 + 2)
  have q04 := (b4.cell (p := ⟨r0, 0, none⟩) (show r0 < w3.heap.size by have := b3.size; omega)).trans q03
  have qf4 := (b4.frozen (p := ⟨r0, 0, none⟩) (show r0 < w3.heap.size by have := b3.size; omega)).trans qf3
  have n1 : r0 ≠ g4 := by have := b3.size; omega
  have n2 := n1.symm
  have hown5 := (hown4.stored (k * 3 + 1) (.slice (some ⟨g, 0, none⟩) x.fr.length c2)).1
  have hown6 := (hown5.stored (k * 3 + 2) (.bool true)).1
  have H3 := Lib.hid hown3
  have H4 := Lib.hid hown4
  have s3 := b3.size
  have b6 : Below w3.heap.size w3 (((w4.setCell ⟨g4, k * 3, none⟩ (.int .u64 (x.to : Int))).setCell ⟨g4, k * 3 + 1, none⟩ (.slice (some ⟨g, 0, none⟩) x.fr.length c2)).setCell ⟨g4, k * 3 + 2, none⟩ (.bool true)) := ((b4.setCell hg4' _).setCell hg4' _).setCell hg4' _
  have hself : xs.set (k * 3) (.int .u64 (x.to : Int)) = xs := by
    obtain ⟨hl, hv⟩ := List.getElem?_eq_some_iff.1 hk0
    rw [← hv]; exact List.set_getElem_self hl
  have ho6 := ((((hown4.stored (k * 3) (.int .u64 (x.to : Int))).1).stored (k * 3 + 1) (.slice (some ⟨g, 0, none⟩) x.fr.length c2)).1.stored (k * 3 + 2) (.bool true)).1
  rw [hself] at ho6
  obtain ⟨W6, hW6⟩ : ∃ W6, W6 = ((w4.setCell ⟨g4, k * 3, none⟩ (.int .u64 (x.to : Int))).setCell ⟨g4, k * 3 + 1, none⟩ (.slice (some ⟨g, 0, none⟩) x.fr.length c2)).setCell ⟨g4, k * 3 + 2, none⟩ (.bool true) := ⟨_, rfl⟩
  rw [← hW6] at b6 ho6
  have bW : Below w.heap.size w W6 := b3.trans (b6.mono s3)
  have s6 := b6.size
  have ho7 := own_base ho6 s3
  have hput := ref_put (R := L.set k ⟨x.to, x.fr.set at_ (x.fr.getD at_ 0 ^^^ m), true⟩) HN.out bW (A' := some ⟨g4, 0, none⟩) (c' := c4) (ys := (xs.set (k * 3 + 1) (.slice (some ⟨g, 0, none⟩) x.fr.length c2)).set (k * 3 + 2) (.bool true)) (by rw [List.length_set]; exact ho7) (by
    refine ⟨by rw [List.length_set, List.length_set, List.length_set]; exact hxs, fun j z hj => ?_⟩
    by_cases hjk : j = k
    · subst hjk
      rw [List.getElem?_set_self hk] at hj
      injection hj with hj
      subst hj
      rw [row_here hrk]
      refine ⟨some ⟨g, 0, none⟩, c2, by simp, by rw [HX.out]; exact hto, by simp; exact hfr, by simp; exact hc2, ?_⟩
      rw [HS.out] at hown3
      have h3 : w3.ownsRow w.heap.size 5 1 (.slice (some ⟨g, 0, none⟩) (x.fr.set at_ (x.fr.getD at_ 0 ^^^ m)).length c2) (x.fr.set at_ (x.fr.getD at_ 0 ^^^ m)).length ((x.fr.set at_ (x.fr.getD at_ 0 ^^^ m)).map u8v) := by rw [List.length_set]; exact hown3
      refine (own_of_row h3).fr.keep (fun g' hg' => .inr ⟨hg'.1, by have := hg'.2.1; omega⟩) (SameAt.below b6 fun g' hg' => hg'.2.1)
    · rw [List.getElem?_set_ne (Ne.symm hjk)] at hj
      rw [row_there hjk]
      exact (hrow.2 j z hj).keep (fun _ h => .inl h) (SameAt.below bW hS))
  rw [hW6, List.length_set] at hput
  have HP := Lib.hid hput
  clear hown3 hown4 hown5 hown6 hat3 hat one hput ho6 ho7 hW6 b6 bW hself hrk hk0
  go_wp2
  go_ret
  exact ⟨rfl, HP.out⟩

theorem refSpoil_in (S : Nat → Prop) (r0 k : Nat) (L : List Let) (a : Int) (m : UInt8) (w : World) (h : RefO w S r0 L) (hk : k < L.length) (hL : L.length ≤ 1000000) :
    Calls Try.prog 24 #[.pointer (some ⟨r0, 0, none⟩), .int .i64 (k : Int), .int .i64 a, u8v m] w (ErrRef w S r0 (L.set k (spoilX L[k] a m).1) (spoilX L[k] a m).2) := by
  have hself : L.set k L[k] = L := List.set_getElem_self hk
  by_cases ha : a < 0 ∨ (L[k].fr.length : Int) ≤ a
  · have e : spoilX L[k] a m = (L[k], 17) := by unfold spoilX spoilL; rw [if_pos ha]; rfl
    rw [e]; simp only [hself]
    exact refSpoil_range S r0 k L a _ w h hk ha
  · obtain ⟨n, rfl⟩ : ∃ n : Nat, a = (n : Int) := ⟨a.toNat, by omega⟩
    by_cases hm : m = 0
    · have e : spoilX L[k] n m = (L[k], 2) := by unfold spoilX spoilL; rw [if_neg ha, if_pos hm]; rfl
      rw [e]; simp only [hself]
      subst hm
      exact refSpoil_zero S r0 k n L w h hk (by omega)
    · cases hsp : L[k].sp
      · have e : spoilX L[k] n m = (⟨L[k].to, L[k].fr.set n (L[k].fr.getD n 0 ^^^ m), true⟩, 0) := by unfold spoilX spoilL; rw [if_neg ha, if_neg hm, hsp]; rfl
        rw [e]
        exact refSpoil_good S r0 k n L m w h hk hL (by omega) hm hsp
      · have e : spoilX L[k] n m = (L[k], 13) := by unfold spoilX spoilL; rw [if_neg ha, if_neg hm, hsp]; rfl
        rw [e]; simp only [hself]
        exact refSpoil_state S r0 k n L m w h hk (by omega) hm hsp
end Go.Proofs.Ytponmokiogdejaa
