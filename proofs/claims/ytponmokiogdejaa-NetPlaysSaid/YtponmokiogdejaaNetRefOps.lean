import Derived.Test.YtponmokiogdejaaNetRef
namespace Go.Proofs.Ytponmokiogdejaa
open Go.RowKit
set_option linter.unusedSimpArgs false
set_option linter.unusedVariables false

set_option maxHeartbeats 1000000 in
theorem refIs_any (i : Int) (w : World) {r0 n c : Nat} {A : Option Addr} (q0 : w.cell? ⟨r0, 0, none⟩ = some (.slice A n c)) :
    Calls Try.prog 29 #[.pointer (some ⟨r0, 0, none⟩), .int .i64 i] w fun e w' => e = .returned (.bool (decide (0 ≤ i ∧ i < n))) ∧ w = w' := by
  by_cases h0 : 0 ≤ i
  · by_cases h1 : i < n
    · have e : decide (0 ≤ i ∧ i < (n : Int)) = true := by simp; omega
      rw [e]
      go_enter Try.func29, Try.ntmps29
      go_wp2
      go_ret
      exact ⟨rfl, rfl⟩
    · have e : decide (0 ≤ i ∧ i < (n : Int)) = false := by simp; omega
      rw [e]
      go_enter Try.func29, Try.ntmps29
      go_wp2
      go_ret
      exact ⟨rfl, rfl⟩
  · have e : decide (0 ≤ i ∧ i < (n : Int)) = false := by simp; omega
    rw [e]
    go_enter Try.func29, Try.ntmps29
    go_wp2
    go_ret
    exact ⟨rfl, rfl⟩

theorem fr_into {w w1 w2 w5 : World} {S : Nat → Prop} {A2 : Option Addr} {l : List UInt8} {row : Option Nat} {o : Obj} (h : Own w2 w1.heap.size A2 l) (hg : (w2.alloc o).grownBy w5 row) (hr : ∀ k, row = some k → k < w1.heap.size) (h1 : w.heap.size ≤ w1.heap.size) : Fr w5 (More S w w5) A2 l := by
  have s := hg.size
  rw [World.size_alloc] at s
  refine h.fr.keep (fun g hg' => .inr ⟨by have := hg'.1; omega, by have := hg'.2.1; omega⟩) (fun p hp => ?_)
  have p1 := hp.1
  have p2 := hp.2.1
  have hk : w5.heap[p.block]? = w2.heap[p.block]? := (hg.block p.block (by rw [World.size_alloc]; omega) (fun e => by have := hr _ e.symm; omega)).trans (heap_alloc_old _ _ p2)
  exact ⟨World.cell?_of_block hk, World.frozen?_of_block hk⟩
theorem rows_into {w w5 : World} {S : Nat → Prop} {xs : List Value} {L : List Let} (h : RowsO 3 (LetO w S) xs L) (hS : ∀ k, S k → k < w.heap.size) (hb : Below w.heap.size w w5) : RowsO 3 (LetO w5 (More S w w5)) xs L :=
  h.mono fun ds x hx => hx.keep (fun _ h => .inl h) (SameAt.below hb hS)

set_option maxRecDepth 100000 in
set_option maxHeartbeats 8000000 in
theorem refSend_any (S : Nat → Prop) (r0 : Nat) (L : List Let) (tw : Nat) (l : List UInt8) (B : Option Addr) (d : Nat) (w : World) (h : RefO w S r0 L) (hL : L.length ≤ 1000000) (h1 : At w w.heap.size 1 B l.length (l.map u8v)) (hm : l.length ≤ 140737488355328) (hto : tw < 18446744073709551616) :
    Calls Try.prog 23 #[.pointer (some ⟨r0, 0, none⟩), .int .u64 (tw : Int), .slice B l.length d] w fun e w' => e = .returned (.tuple #[]) ∧ RefDid w S r0 (L ++ [⟨tw, l, false⟩]) w' := by
  obtain ⟨i0, hi, hz0, hz1, hz2⟩ := info_parts info_letter
  obtain ⟨A, c, xs, hn⟩ := h
  have q0 := hn.1
  have qf := hn.2.1
  have hr0 := hn.2.2.2.2.2.2.1
  have HN := Lib.hid hn
  have H1 := Lib.hid h1
  have hat := hn.at
  have one := one_lets hn.2.2.2.1
  have hS := hn.2.2.2.2.2.2.2
  have hrow := hn.2.2.2.1
  clear h1 hn
  go_enter Try.func23, Try.ntmps23
  go_wp2_with (at_builtin; refine wpList_append_from _ rfl _ _ 25 rfl w.heap.size 47 i0 _ 3 40 Try.underlying25 hi hz0 hz1 hz2 rfl (by decide) (.slice none 0 0) 0 [] rfl (World.ownsRow_nil _ _ _ _) w.heap.size A L.length c xs rfl hat one (by unfold maxLen; omega) (by omega) (Nat.le_refl _) ?_; intro v1 w1 hown1 hg1 hat1)
  have b1 : Below w.heap.size w w1 := grown_below (World.ownsRow_nil w w.heap.size 47 3) hg1 (Nat.le_refl _)
  have hlt1 := fun k hk => (hown1.lt k hk).2
  have HC := Lib.hid (nown_row B d w1.heap.size l w1 (H1.out.arg b1) hm)
  clear hg1 hat1
  go_wp2_with fail
  ((with_reducible refine HC.out.mono ?_); rintro e w2 ⟨v2, rfl, hown2, b2⟩)
  obtain ⟨A2, c2, rfl, hc2, _, _⟩ := own_slice hown2
  have ho2 := own_of_row hown2
  have ho4 := (own_below hown1 b2 (Nat.le_refl _)).alloc (.cells #[.int .u64 (tw : Int), .slice A2 l.length c2, .bool false] 47)
  have s1 := b1.size
  have s2 := b2.size
  have HO := Lib.hid ho2
  have k2 := bthen b1 b2
  clear hown2 ho2 hown1 HC
  go_wp2_with (at_builtin; refine wpList_append_from _ rfl _ _ 25 rfl w.heap.size 47 i0 _ 3 40 Try.underlying25 hi hz0 hz1 hz2 rfl (by decide) v1 (0 + L.length) _ rfl ho4 (w2.heap.size + 1) (some ⟨w2.heap.size, 0, none⟩) 1 1 [.int .u64 (tw : Int), .slice A2 l.length c2, .bool false] rfl (At.new w2 _ _ 3 1 rfl) (one3 _ _ _ _ _) (by unfold maxLen; omega) (by omega) (by simp; omega) ?_; intro v5 w5 hown5 hg5 hat5; obtain ⟨A5, c5, rfl, _, _, _⟩ := own_slice hown5; have b5 : Below w.heap.size w w5 := (k2.alloc (by omega) _).trans (grown_below ho4 hg5 (by simp; omega)); have x5 := (b5.cell (p := ⟨r0, 0, none⟩) hr0).trans q0; have x6 := (b5.frozen (p := ⟨r0, 0, none⟩) hr0).trans qf)
  have hlen : (L ++ [(⟨tw, l, false⟩ : Let)]).length = 0 + L.length + 1 := by simp
  have hput := ref_put (R := L ++ [⟨tw, l, false⟩]) HN.out b5 (A' := A5) (c' := c5) (ys := [] ++ xs ++ [.int .u64 (tw : Int), .slice A2 l.length c2, .bool false]) (by rw [hlen]; exact hown5) (by
    rw [List.nil_append]
    exact (rows_into hrow hS b5).snoc rfl ⟨A2, c2, rfl, hto, hm, hc2, fr_into HO.out hg5 hlt1 s1⟩)
  rw [hlen, Nat.zero_add] at hput
  have HP := Lib.hid hput
  clear hput hown5 hg5 hat5 ho4 hlen
  go_wp2
  go_end0
  exact ⟨rfl, HP.out⟩

theorem ref_same {w w' : World} {S : Nat → Prop} {r0 : Nat} {L : List Let} (h : RefO w S r0 L) (hb : Below w.heap.size w w') : RefDid w S r0 L w' := by
  obtain ⟨A, c, xs, h⟩ := h
  obtain ⟨h1, h2, h3, h4, h5, h6, h7, h8⟩ := h.below hb
  have s := hb.size
  refine ⟨⟨A, c, xs, h1, h2, h3, h4.mono fun ds x hx => hx.keep (fun _ h => .inl h) (SameAt.refl _ _), fun hn => ?_, fun hp => ?_, h7, fun k hk => ?_⟩, hb.os, hb.tape, hb.output, s, fun k hk _ => hb.block k hk⟩
  · obtain ⟨b, e, hS, hc⟩ := h5 hn
    exact ⟨b, e, .inl hS, hc⟩
  · rcases hp with hp | hp
    · exact h6 hp
    · have := h.2.2.2.2.2.2.1; omega
  · rcases hk with hk | hk
    · exact h8 k hk
    · exact hk.2
def ErrRef (w : World) (S : Nat → Prop) (r0 : Nat) (L : List Let) (n : Nat) (e : Ending) (w' : World) : Prop := e = .returned (.int .i64 (n : Int)) ∧ RefDid w S r0 L w'

set_option maxRecDepth 100000 in
set_option maxHeartbeats 8000000 in
theorem refDoubleOut_any (S : Nat → Prop) (r0 : Nat) (L : List Let) (i : Int) (w : World) (h : RefO w S r0 L) (hi : i < 0 ∨ (L.length : Int) ≤ i) :
    Calls Try.prog 31 #[.pointer (some ⟨r0, 0, none⟩), .int .i64 i] w (ErrRef w S r0 L 17) := by
  have HS := Lib.hid fun W (hW : Below w.heap.size w W) => ref_same h hW
  obtain ⟨A, c, xs, hn⟩ := h
  have c1 := refIs_any i w hn.1
  rw [show decide (0 ≤ i ∧ i < (L.length : Int)) = false by simp; omega] at c1
  have HC := Lib.hid c1
  clear hn c1 hi
  go_enter Try.func31, Try.ntmps31
  go_wp2_with fail
  ((with_reducible refine HC.out.mono ?_); rintro e w1 ⟨rfl, rfl⟩)
  go_wp2
  go_ret
  exact ⟨rfl, HS.out _ (Below.refl _ _)⟩
set_option maxRecDepth 100000 in
set_option maxHeartbeats 8000000 in
theorem refDropOut_any (S : Nat → Prop) (r0 : Nat) (L : List Let) (i : Int) (w : World) (h : RefO w S r0 L) (hi : i < 0 ∨ (L.length : Int) ≤ i) :
    Calls Try.prog 30 #[.pointer (some ⟨r0, 0, none⟩), .int .i64 i] w (ErrRef w S r0 L 17) := by
  have HS := Lib.hid fun W (hW : Below w.heap.size w W) => ref_same h hW
  obtain ⟨A, c, xs, hn⟩ := h
  have c1 := refIs_any i w hn.1
  rw [show decide (0 ≤ i ∧ i < (L.length : Int)) = false by simp; omega] at c1
  have HC := Lib.hid c1
  clear hn c1 hi
  go_enter Try.func30, Try.ntmps30
  go_wp2_with fail
  ((with_reducible refine HC.out.mono ?_); rintro e w1 ⟨rfl, rfl⟩)
  go_wp2
  go_ret
  exact ⟨rfl, HS.out _ (Below.refl _ _)⟩
set_option maxRecDepth 100000 in
set_option maxHeartbeats 8000000 in
theorem refSpoilOut_any (S : Nat → Prop) (r0 : Nat) (L : List Let) (i a m : Int) (w : World) (h : RefO w S r0 L) (hi : i < 0 ∨ (L.length : Int) ≤ i) :
    Calls Try.prog 24 #[.pointer (some ⟨r0, 0, none⟩), .int .i64 i, .int .i64 a, .int .u8 m] w (ErrRef w S r0 L 17) := by
  have HS := Lib.hid fun W (hW : Below w.heap.size w W) => ref_same h hW
  obtain ⟨A, c, xs, hn⟩ := h
  have c1 := refIs_any i w hn.1
  rw [show decide (0 ≤ i ∧ i < (L.length : Int)) = false by simp; omega] at c1
  have HC := Lib.hid c1
  clear hn c1 hi
  go_enter Try.func24, Try.ntmps24
  go_wp2_with fail
  ((with_reducible refine HC.out.mono ?_); rintro e w1 ⟨rfl, rfl⟩)
  go_wp2
  go_ret
  exact ⟨rfl, HS.out _ (Below.refl _ _)⟩

theorem alloc_grown {w w1 : World} {X : List Value} (hg : (w.alloc (.cells X.toArray 47)).grownBy w1 none) (hX : X.length = 3) : Below w.heap.size w w1 ∧ w.heap.size + 1 ≤ w1.heap.size ∧ At w1 (w.heap.size + 1) 3 (some ⟨w.heap.size, 0, none⟩) 1 X := by
  have s := hg.size
  rw [World.size_alloc] at s
  refine ⟨⟨hg.os, hg.tape, hg.output, by omega, fun k hk => (hg.block k (by rw [World.size_alloc]; omega) (by simp)).trans (heap_alloc_old _ _ hk)⟩, s, ?_⟩
  exact (At.new w X 47 3 1 (by rw [hX])).keep fun p hp => World.cell?_of_block (hg.block p.block (by rw [World.size_alloc]; exact hp) (by simp))
set_option maxRecDepth 100000 in
set_option maxHeartbeats 8000000 in
theorem refDouble_in (S : Nat → Prop) (r0 k : Nat) (L : List Let) (w : World) (h : RefO w S r0 L) (hk : k < L.length) (hL : L.length ≤ 1000000) :
    Calls Try.prog 31 #[.pointer (some ⟨r0, 0, none⟩), .int .i64 (k : Int)] w (ErrRef w S r0 (L ++ [L[k]]) 0) := by
  obtain ⟨i0, hi, hz0, hz1, hz2⟩ := info_parts info_letter
  obtain ⟨A, c, xs, hn⟩ := h
  have c1 := refIs_any k w hn.1
  rw [show decide (0 ≤ (k : Int) ∧ (k : Int) < (L.length : Int)) = true by simp; omega] at c1
  have HC := Lib.hid c1
  have q0 := hn.1
  have qf := hn.2.1
  have hr0 := hn.2.2.2.2.2.2.1
  have hat := hn.at
  obtain ⟨b, B, d, rfl, hSb, hbs, hbr, ⟨a0, a1, a2⟩, hlet, hto, hfr, hd, hF⟩ := hn.row hk
  have hS := hn.2.2.2.2.2.2.2
  have hrow := hn.2.2.2.1
  have one := one_lets hrow
  have HN := Lib.hid hn
  obtain ⟨x, hx⟩ : ∃ x, x = L[k] := ⟨_, rfl⟩
  rw [← hx] at a0 a1 a2 hto hfr hd hF hlet ⊢
  have HL := Lib.hid hlet
  clear hn c1 hx hF hlet
  go_enter Try.func31, Try.ntmps31
  go_wp2_with fail
  ((with_reducible refine HC.out.mono ?_); rintro e w1 ⟨rfl, rfl⟩)
  clear HC
  go_wp2_with fail
  have q00 := q0
  have qf0 := qf
  have hat0 : ∀ o, At (w.alloc o).drew w.heap.size 3 (some ⟨b, 0, none⟩) L.length xs := fun o => hat.alloc (Nat.le_refl _) o
  have hle0 : ∀ o, w.heap.size ≤ (w.alloc o).drew.heap.size := fun o => by show w.heap.size ≤ (w.alloc o).heap.size; simp
  go_region_law (first
    | (refine step_append_from _ (by rfl) _ (.tmp 13) 25 (by rfl) w.heap.size 47 i0 _ 3 40 Try.underlying25 hi hz0 hz1 hz2 rfl (by decide) (.slice none 0 0) 0 [] (by simp [Act.eval, Act.put]) (World.ownsRow_nil _ _ _ _) w.heap.size (some ⟨b, 0, none⟩) L.length c xs (by simp [Act.eval, Act.put]) hat one (by unfold maxLen; omega) (by omega) (Nat.le_refl _) ?_; intro v1 w1 hown1 hg1 hat1; have b1 : Below w.heap.size w w1 := grown_below (World.ownsRow_nil w w.heap.size 47 3) (show w.grownBy w1 none from ⟨hg1.os, hg1.tape, hg1.output, hg1.size, hg1.block⟩) (Nat.le_refl _); have s1 := b1.size; have q0 := (b1.cell (p := ⟨r0, 0, none⟩) hr0).trans q0; have qf := (b1.frozen (p := ⟨r0, 0, none⟩) hr0).trans qf; have a0 := (b1.cell (p := ⟨b, k * 3, none⟩) hbs).trans a0; have a1 := (b1.cell (p := ⟨b, k * 3 + 1, none⟩) hbs).trans a1; have a2 := (b1.cell (p := ⟨b, k * 3 + 2, none⟩) hbs).trans a2)
    | (refine step_append_from _ (by rfl) _ (.tmp 13) 25 (by rfl) w.heap.size 47 i0 _ 3 40 Try.underlying25 hi hz0 hz1 hz2 rfl (by decide) (.slice none 0 0) 0 [] (by simp [Act.eval, Act.put]) (World.ownsRow_nil _ _ _ _) w.heap.size (some ⟨b, 0, none⟩) L.length c xs (by simp [Act.eval, Act.put]) (hat0 _) one (by unfold maxLen; omega) (by omega) (hle0 _) ?_; intro v1 w1 hown1 hg1 hat1; have hg1 : (w.alloc (.cells #[.int .u64 (x.to : Int), .slice B x.fr.length d, .bool x.sp] 47)).grownBy w1 none := ⟨hg1.os, hg1.tape, hg1.output, hg1.size, hg1.block⟩; obtain ⟨b1, s1, hsrc⟩ := alloc_grown hg1 rfl; have q0 := (b1.cell (p := ⟨r0, 0, none⟩) hr0).trans q0; have qf := (b1.frozen (p := ⟨r0, 0, none⟩) hr0).trans qf; have a0 := (b1.cell (p := ⟨b, k * 3, none⟩) hbs).trans a0; have a1 := (b1.cell (p := ⟨b, k * 3 + 1, none⟩) hbs).trans a1; have a2 := (b1.cell (p := ⟨b, k * 3 + 2, none⟩) hbs).trans a2)
    | (refine step_append_from _ (by rfl) (.tmp 14) (.tmp 22) 25 (by rfl) w.heap.size 47 i0 _ 3 40 Try.underlying25 hi hz0 hz1 hz2 rfl (by decide) v1 (0 + L.length) _ (by simp [Act.eval, Act.put]) (hown1.alloc (.cells #[.int .u64 (x.to : Int), .slice B x.fr.length d, .bool x.sp] 47)) (w1.heap.size + 1) (some ⟨w1.heap.size, 0, none⟩) 1 1 [.int .u64 (x.to : Int), .slice B x.fr.length d, .bool x.sp] (by simp [Act.eval, Act.put]) (At.new w1 [.int .u64 (x.to : Int), .slice B x.fr.length d, .bool x.sp] 47 3 1 rfl) (one3 _ _ _ _ _) (by unfold maxLen; omega) (by omega) (by simp; omega) ?_; intro v5 w5 hown5 hg5 hat5; obtain ⟨A5, c5, rfl, _, _, _⟩ := own_slice hown5; have b5 : Below w.heap.size w w5 := (b1.alloc (by omega) _).trans (grown_below (hown1.alloc (.cells #[.int .u64 (x.to : Int), .slice B x.fr.length d, .bool x.sp] 47)) hg5 (by simp; omega)); have q0 := (b5.cell (p := ⟨r0, 0, none⟩) hr0).trans q00; have qf := (b5.frozen (p := ⟨r0, 0, none⟩) hr0).trans qf0)
    | (refine step_append_from _ (by rfl) (.tmp 14) (.tmp 22) 25 (by rfl) w.heap.size 47 i0 _ 3 40 Try.underlying25 hi hz0 hz1 hz2 rfl (by decide) v1 (0 + L.length) _ (by simp [Act.eval, Act.put]) hown1 (w.heap.size + 1) (some ⟨w.heap.size, 0, none⟩) 1 1 [.int .u64 (x.to : Int), .slice B x.fr.length d, .bool x.sp] (by simp [Act.eval, Act.put]) hsrc (one3 _ _ _ _ _) (by unfold maxLen; omega) (by omega) (by omega) ?_; intro v5 w5 hown5 hg5 hat5; obtain ⟨A5, c5, rfl, _, _, _⟩ := own_slice hown5; have b5 : Below w.heap.size w w5 := b1.trans (grown_below hown1 hg5 (by omega)); have q0 := (b5.cell (p := ⟨r0, 0, none⟩) hr0).trans q00; have qf := (b5.frozen (p := ⟨r0, 0, none⟩) hr0).trans qf0))
  all_goals
    have hlen : (L ++ [x]).length = 0 + L.length + 1 := by simp
    have hput := ref_put (R := L ++ [x]) HN.out b5 (A' := A5) (c' := c5) (ys := [] ++ xs ++ [.int .u64 (x.to : Int), .slice B x.fr.length d, .bool x.sp]) (by rw [hlen]; exact hown5) (by
      rw [List.nil_append]
      exact (rows_into hrow hS b5).snoc rfl (HL.out.keep (fun _ h => .inl h) (SameAt.below b5 hS)))
    rw [hlen, Nat.zero_add] at hput
    have HP := Lib.hid hput
    clear hput hown5 hg5 hat5 hlen hown1 hg1 hat1 a0 a1 a2 q0 qf q00 qf0 hat one
    go_wp2
    go_ret
    exact ⟨rfl, HP.out⟩

/-- One letter less. -/
theorem take_erase {L : List Let} {j k : Nat} (hj : j < L.length) (h : j ≠ k) : (L.take (j + 1)).eraseIdx k = (L.take j).eraseIdx k ++ [L[j]] := by
  rw [List.take_succ_eq_append_getElem hj]
  rcases Nat.lt_or_ge k j with hk | hk
  · rw [List.eraseIdx_append_of_lt_length (by rw [List.length_take]; omega)]
  · rw [List.eraseIdx_of_length_le (by rw [List.length_append, List.length_take, List.length_singleton]; omega), List.eraseIdx_of_length_le (by rw [List.length_take]; omega)]
theorem take_erase_at {L : List Let} {k : Nat} (hk : k < L.length) : (L.take (k + 1)).eraseIdx k = (L.take k).eraseIdx k := by
  have e : (L.take k).eraseIdx k = L.take k := List.eraseIdx_of_length_le (by rw [List.length_take]; omega)
  have l : (L.take k).length = k := by rw [List.length_take]; omega
  rw [e, List.take_succ_eq_append_getElem hk, List.eraseIdx_append_of_length_le (by rw [l]; omega), l]
  simp

set_option maxRecDepth 100000 in
set_option maxHeartbeats 8000000 in
theorem refDrop_in (S : Nat → Prop) (r0 k : Nat) (L : List Let) (w : World) (h : RefO w S r0 L) (hk : k < L.length) (hL : L.length ≤ 1000000) :
    Calls Try.prog 30 #[.pointer (some ⟨r0, 0, none⟩), .int .i64 (k : Int)] w (ErrRef w S r0 (L.eraseIdx k) 0) := by
  obtain ⟨i0, hi, hz0, hz1, hz2⟩ := info_parts info_letter
  obtain ⟨A, c, xs, hn⟩ := h
  have c1 := refIs_any k w hn.1
  rw [show decide (0 ≤ (k : Int) ∧ (k : Int) < (L.length : Int)) = true by simp; omega] at c1
  have HC := Lib.hid c1
  have q0 := hn.1
  have qf := hn.2.1
  have hr0 := hn.2.2.2.2.2.2.1
  have hS := hn.2.2.2.2.2.2.2
  have HN := Lib.hid hn
  clear hn c1
  go_enter Try.func30, Try.ntmps30
  go_wp2_with fail
  ((with_reducible refine HC.out.mono ?_); rintro e w1 ⟨rfl, rfl⟩)
  have Q := Lib.hid fun W (hW : Below w.heap.size w W) => And.intro ((hW.cell (p := ⟨r0, 0, none⟩) hr0).trans q0) ((hW.frozen (p := ⟨r0, 0, none⟩) hr0).trans qf)
  clear HC q0 qf
  go_wp2
  go_loopw [5, 6] (fun v i wr => ∃ (j : Nat) (R : List Let) (ys : List Value), j ≤ L.length ∧ i = .int .i64 j ∧ wr.ownsRow w.heap.size 47 3 v R.length ys ∧ R.length ≤ j ∧ Hid (R = (L.take j).eraseIdx k) ∧ Hid (RowsO 3 (LetO wr S) ys R) ∧ Below w.heap.size w wr) (fun _ i _ => L.length - (intOf i).toNat)
  case atStart => exact ⟨0, [], [], Nat.zero_le _, rfl, World.ownsRow_nil _ _ _ _, Nat.le_refl _, by simp [Hid], RowsO.nil _ _, Below.refl _ _⟩
  case round =>
    obtain ⟨j, R, ys, hj, rfl, hown, hRj, HR, HY, hb⟩ := hrel
    obtain ⟨q0, qf⟩ := Q.out wr hb
    by_cases hlt : j < L.length
    · by_cases hjk : j = k
      · have HR2 : Hid (R = (L.take (j + 1)).eraseIdx k) := by rw [Hid, HR.out, hjk, take_erase_at (by omega)]
        have hjk2 : (j : Int) = (k : Int) := by omega
        have hne : ((j : Int) != (k : Int)) = false := by rw [hjk]; simp
        have HOWN := Lib.hid hown
        clear HR hjk hown
        go_wp2
        go_roundw
        case rel => exact ⟨j + 1, R, ys, by omega, by go_num, HOWN.out, by omega, HR2, HY, hb⟩
        case measure => simp [intOf]; omega
      · obtain ⟨b, B, d, rfl, hSb, hbs, hbr, ⟨a0, a1, a2⟩, hlet, hto, hfr, hd, hF⟩ := HN.out.row hlt
        have HT := Lib.hid (take_erase hlt hjk)
        have hjk2 : ¬ (j : Int) = (k : Int) := by omega
        have hne : ((j : Int) != (k : Int)) = true := by rw [bne_iff_ne]; omega
        obtain ⟨x, hx⟩ : ∃ x, x = L[j] := ⟨_, rfl⟩
        rw [← hx] at a0 a1 a2 hto hfr hd hF hlet HT
        have a0 := (hb.cell (p := ⟨b, j * 3, none⟩) hbs).trans a0
        have a1 := (hb.cell (p := ⟨b, j * 3 + 1, none⟩) hbs).trans a1
        have a2 := (hb.cell (p := ⟨b, j * 3 + 2, none⟩) hbs).trans a2
        have HL := Lib.hid hlet
        have ho4 := hown.alloc (.cells #[.int .u64 (x.to : Int), .slice B x.fr.length d, .bool x.sp] 47)
        have hsz := hb.size
        clear hx hF hlet hjk
        go_wp2_with (at_builtin; refine wpList_append_from _ rfl _ _ 25 rfl w.heap.size 47 i0 _ 3 40 Try.underlying25 hi hz0 hz1 hz2 rfl (by decide) _ R.length ys rfl ho4 (wr.heap.size + 1) (some ⟨wr.heap.size, 0, none⟩) 1 1 [.int .u64 (x.to : Int), .slice B x.fr.length d, .bool x.sp] rfl (At.new wr _ _ 3 1 rfl) (one3 _ _ _ _ _) (by unfold maxLen; omega) (by omega) (by simp; omega) ?_; intro v' w5 hown5 hg5 hat5)
        have b5 : Below w.heap.size w w5 := (hb.alloc hsz _).trans (grown_below ho4 hg5 (by simp; omega))
        have hn5 : RowsO 3 (LetO w5 S) (ys ++ [.int .u64 (x.to : Int), .slice B x.fr.length d, .bool x.sp]) (R ++ [x]) := by
          have hw : Below w.heap.size wr w5 := (Below.refl _ wr).alloc hsz _ |>.trans (grown_below ho4 hg5 (by simp; omega))
          exact (HY.out.mono fun ds x hx => hx.keep (fun _ h => h) (fun p hp => ⟨hw.cell (hS _ hp), hw.frozen (hS _ hp)⟩)).snoc rfl (HL.out.keep (fun _ h => h) (SameAt.below b5 hS))
        have HN5 := Lib.hid hn5
        have HR2 : Hid (R ++ [x] = (L.take (j + 1)).eraseIdx k) := by rw [Hid, HT.out, HR.out]
        have hlen : (R ++ [x]).length = R.length + 1 := by simp
        rw [← hlen] at hown5
        have hRl : (R ++ [x]).length ≤ j + 1 := by omega
        have HOWN := Lib.hid hown5
        clear hn5 HR HT HL hg5 hat5 ho4 hown HY hown5 hlen
        go_roundw
        case rel => exact ⟨j + 1, _, _, by omega, by go_num, HOWN.out, hRl, HR2, HN5, b5⟩
        case measure => simp [intOf]; omega
    · have HR2 : Hid (R = L.eraseIdx k) := by
        rw [Hid, HR.out, List.take_of_length_le (by omega)]
      obtain ⟨A5, c5, rfl, _, _, _⟩ := own_slice hown
      have hput := ref_put HN.out hb hown (HY.out.mono fun ds x hx => hx.keep (fun _ h => .inl h) (SameAt.refl _ _))
      rw [HR2.out] at hput
      have HP := Lib.hid hput
      have HRL := Lib.hid (show R.length = (L.eraseIdx k).length by rw [HR2.out])
      clear hput hown HR HR2 HY
      go_wp2
      go_ret
      exact ⟨rfl, by rw [HRL.out]; exact HP.out⟩
end Go.Proofs.Ytponmokiogdejaa
