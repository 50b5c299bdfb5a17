import Derived.Test.YtponmokiogdejaaNetWith
import Derived.Deep.RegionHeld3
namespace Go.Proofs.Ytponmokiogdejaa
open Go.RowKit
set_option linter.unusedSimpArgs false
set_option linter.unusedVariables false

theorem row_here {xs : List Value} {k : Nat} {a b c v1 v2 : Value} (h : (xs.drop (k * 3)).take 3 = [a, b, c]) : (((xs.set (k * 3 + 1) v1).set (k * 3 + 2) v2).drop (k * 3)).take 3 = [a, v1, v2] := by
  rw [List.drop_set, if_neg (by omega), List.drop_set, if_neg (by omega), List.take_set, List.take_set, h]
  simp
theorem row_there {xs : List Value} {j k : Nat} (hjk : j ≠ k) (v1 v2 : Value) : (((xs.set (k * 3 + 1) v1).set (k * 3 + 2) v2).drop (j * 3)).take 3 = (xs.drop (j * 3)).take 3 := by
  apply List.ext_getElem?
  intro i
  rw [List.getElem?_take, List.getElem?_take]
  split
  · rw [List.getElem?_drop, List.getElem?_drop, List.getElem?_set_ne (by omega), List.getElem?_set_ne (by omega)]
  · rfl
theorem net_same {w w' : World} {M : Nat → Prop} {g0 : Nat} {L : List Let} {A : Option Addr} {c : Nat} {xs : List Value} (h : NetAt w M g0 L A c xs) (b : Below w.heap.size w w') : NetO w' (Plus M w w') g0 L ∧ Only M w w' := by
  have s := b.size
  refine ⟨NetO.wider ⟨A, c, xs, h.below b⟩ (fun k hk => .inl hk) (fun k hk => ?_), b.os, b.tape, b.output, b.size, fun k hk _ => b.block k hk⟩
  rcases hk with hk | hk
  · have := h.2.2.2.2.2.2.2 k hk; omega
  · exact hk.2
/-- A letter's bytes are other ones, and it is spoilt. -/
theorem net_spoil {w w4 : World} {M : Nat → Prop} {g0 k b : Nat} {L : List Let} {A : Option Addr} {c : Nat} {xs : List Value} {fr : List UInt8} {A4 : Option Addr} {c4 : Nat} (h : NetAt w M g0 L A c xs) (hk : k < L.length) (hA : A = some ⟨b, 0, none⟩)
    (b4 : Below w.heap.size w w4) (hx : Own w4 w.heap.size A4 fr) (hfr : fr.length ≤ 140737488355328) (hc4 : fr.length ≤ c4) :
    NetO ((w4.setCell ⟨b, k * 3 + 1, none⟩ (.slice A4 fr.length c4)).setCell ⟨b, k * 3 + 2, none⟩ (.bool true)) (Plus M w ((w4.setCell ⟨b, k * 3 + 1, none⟩ (.slice A4 fr.length c4)).setCell ⟨b, k * 3 + 2, none⟩ (.bool true))) g0 (L.set k ⟨L[k].to, fr, true⟩) ∧
      Only M w ((w4.setCell ⟨b, k * 3 + 1, none⟩ (.slice A4 fr.length c4)).setCell ⟨b, k * 3 + 2, none⟩ (.bool true)) := by
  subst hA
  obtain ⟨h1, h2, h3, h4, h5, h6, h7, h8⟩ := h
  have s4 := b4.size
  obtain ⟨W, hW⟩ : ∃ W, W = (w4.setCell ⟨b, k * 3 + 1, none⟩ (.slice A4 fr.length c4)).setCell ⟨b, k * 3 + 2, none⟩ (.bool true) := ⟨_, rfl⟩
  rw [← hW]
  have hb := h7 b rfl
  have sW : W.heap.size = w4.heap.size := by rw [hW]; simp [World.setCell]
  have kW : ∀ k, k ≠ b → W.heap[k]? = w4.heap[k]? := fun k hk => by rw [hW]; exact (Below.heap_setCell _ _ _ k hk).trans (Below.heap_setCell _ _ _ k hk)
  have kw : ∀ k, k < w.heap.size → k ≠ b → W.heap[k]? = w.heap[k]? := fun k hk hne => (kW k hne).trans (b4.block k hk)
  have ho4 := own_below h3 b4 (Nat.le_refl _)
  have hoW : W.ownsRow 0 47 3 (.slice (some ⟨b, 0, none⟩) L.length c) L.length ((xs.set (k * 3 + 1) (.slice A4 fr.length c4)).set (k * 3 + 2) (.bool true)) := by rw [hW]; exact ((ho4.stored _ _).1.stored _ _).1
  have os : W.os = w4.os ∧ W.tape = w4.tape ∧ W.output = w4.output := by rw [hW]; exact ⟨rfl, rfl, rfl⟩
  have hK1 : SameAt (fun g => M g ∧ some g ≠ (Value.slice (some ⟨b, 0, none⟩) L.length c).ownBlock ∧ g ≠ g0) w W := fun p hp => by
    have hk : W.heap[p.block]? = w.heap[p.block]? := kw _ (h8 _ hp.1) fun e => hp.2.1 (by rw [e]; rfl)
    exact ⟨World.cell?_of_block hk, World.frozen?_of_block hk⟩
  have hS1 : ∀ g, (M g ∧ some g ≠ (Value.slice (some ⟨b, 0, none⟩) L.length c).ownBlock ∧ g ≠ g0) → (Plus M w W g ∧ some g ≠ (Value.slice (some ⟨b, 0, none⟩) L.length c).ownBlock ∧ g ≠ g0) := fun g hg => ⟨.inl hg.1, hg.2⟩
  have hlt : b < w.heap.size := h8 b hb.1
  have hS2 : ∀ g, Span w.heap.size w4.heap.size none g → (Plus M w W g ∧ some g ≠ (Value.slice (some ⟨b, 0, none⟩) L.length c).ownBlock ∧ g ≠ g0) := fun g hg => by
    have g1 := hg.1
    have g2 := hg.2.1
    refine ⟨.inr ⟨g1, by rw [sW]; exact g2⟩, fun e => ?_, by omega⟩
    have e : some g = some b := e
    injection e with e
    omega
  have hK2 : SameAt (Span w.heap.size w4.heap.size none) w4 W := fun p hp => by
    have p1 := hp.1
    have hk : W.heap[p.block]? = w4.heap[p.block]? := kW _ (by omega)
    exact ⟨World.cell?_of_block hk, World.frozen?_of_block hk⟩
  refine ⟨⟨some ⟨b, 0, none⟩, c, (xs.set (k * 3 + 1) (.slice A4 fr.length c4)).set (k * 3 + 2) (.bool true), ?_⟩, os.1.trans b4.os, os.2.1.trans b4.tape, os.2.2.trans b4.output, by omega, fun i hi hn => kw i hi fun e => hn (e ▸ hb.1)⟩
  unfold NetAt
  rw [List.length_set]
  have hg0 : W.heap[g0]? = w.heap[g0]? := kw g0 h6 hb.2.symm
  refine ⟨(World.cell?_of_block (a := ⟨g0, 0, none⟩) hg0).trans h1, (World.frozen?_of_block (a := ⟨g0, 0, none⟩) hg0).trans h2, hoW, ⟨by rw [List.length_set, List.length_set, List.length_set]; exact h4.1, fun j x hj => ?_⟩, .inl h5, by omega, fun k hk => ⟨.inl (h7 k hk).1, (h7 k hk).2⟩, fun k hk => ?_⟩
  · by_cases hjk : j = k
    · subst hjk
      rw [List.getElem?_set_self hk] at hj
      injection hj with hj
      subst hj
      obtain ⟨A0, c0, e0, t1, -⟩ := h4.2 j _ (List.getElem?_eq_getElem hk)
      rw [row_here e0]
      exact ⟨A4, c4, rfl, t1, hfr, hc4, hx.fr.keep hS2 hK2⟩
    · rw [List.getElem?_set_ne (Ne.symm hjk)] at hj
      rw [row_there hjk]
      exact (h4.2 j x hj).keep hS1 hK1
  · rcases hk with hk | hk
    · have := h8 k hk; omega
    · exact hk.2

/-- What a letter is when a byte is changed, and the error. -/
def spoilX (x : Let) (a : Int) (m : UInt8) : Let × Nat := if (spoilL x.fr a m).2 = 0 then (if x.sp then (x, 13) else (⟨x.to, (spoilL x.fr a m).1, true⟩, 0)) else (x, (spoilL x.fr a m).2)
theorem spoilL_cases (l : List UInt8) (a : Int) (m : UInt8) : spoilL l a m = ([], 17) ∨ spoilL l a m = ([], 2) ∨ ∃ l', l'.length = l.length ∧ spoilL l a m = (l', 0) := by
  unfold spoilL
  split
  · exact .inl rfl
  · split
    · exact .inr (.inl rfl)
    · exact .inr (.inr ⟨_, by simp, rfl⟩)

set_option maxRecDepth 100000 in
set_option maxHeartbeats 4000000 in
theorem spoil1_bad (M : Nat → Prop) (g0 n1 n2 k : Nat) (L : List Let) (A : Option Addr) (c : Nat) (xs : List Value) (b : Nat) (a : Int) (m : UInt8) (w : World) (hA : A = some ⟨b, 0, none⟩) (hn : NetAt w M g0 L A c xs) (hk : k < L.length)
    (hx1 : w.cell? ⟨n1, 0, none⟩ = some (.int .i64 a)) (hx2 : w.cell? ⟨n2, 0, none⟩ = some (u8v m)) (ha1 : -9223372036854775808 ≤ a) (ha2 : a ≤ 9223372036854775807) (q : Nat) (hq : q = 17 ∨ q = 2) (hs : spoilL L[k].fr a m = ([], q)) :
    Calls Try.prog 42 #[.pointer (some ⟨b, k * 3, none⟩), .pointer (some ⟨n1, 0, none⟩), .pointer (some ⟨n2, 0, none⟩)] w (Errs fun n w' => n = q ∧ NetO w' (Plus M w w') g0 L ∧ Only M w w') := by
  obtain ⟨b', B, d, hA', hMb, hbg, hbs, ⟨a0, a1, a2⟩, -, hto, hfr, hd, hF⟩ := net_row hn hk
  rw [hA] at hA'
  injection hA' with hA'
  injection hA' with hA' _ _
  subst hA'
  have HN := Lib.hid fun w' (h : Below w.heap.size w w') => net_same hn h
  have hC : Hid (∀ W, Below w.heap.size w W → Calls Try.prog 43 #[.slice B L[k].fr.length d, .int .i64 a, u8v m] W (AnsO W ([], q))) := fun W hW => by
    rw [← hs]; exact spoil_own B d W.heap.size L[k].fr a m W ((hF.at (B := w.heap.size) fun g hg => hn.2.2.2.2.2.2.2 g hg.1).arg hW) (Nat.le_refl _) (by omega) ha1 ha2
  obtain ⟨x, hx⟩ : ∃ x, x = L[k] := ⟨_, rfl⟩
  rw [← hx] at a0 a1 a2 hC
  clear hF hA hn hto hfr hd hs hx
  have hn1 : n1 < w.heap.size := World.block_lt_of_cell? w _ hx1
  have hn2 : n2 < w.heap.size := World.block_lt_of_cell? w _ hx2
  unfold u8v at hx2
  unfold u8v at hC
  rcases hq with rfl | rfl
  all_goals
    go_enter Try.func42, Try.ntmps42
    go_wp2_with fail
    go_region_held3 (fun w' => w'.cell? ⟨n1, 0, none⟩ = some (.int .i64 a) ∧ w'.cell? ⟨n2, 0, none⟩ = some (.int .u8 (m.toNat : Int)) ∧ w'.cell? ⟨b, k * 3 + 1, none⟩ = some (.slice B x.fr.length d)) (go_keep) (first | (go_at_call 43; (with_reducible refine (hC.out _ (Below.refl _ _).drew).mono ?_); rintro e w4 ⟨A4, c4, rfl, hx, hc4, b4⟩; have b5 : Below w.heap.size w w4 := ⟨b4.os, b4.tape, b4.output, b4.size, b4.block⟩; have a1 := (b5.cell (p := ⟨b, k * 3 + 1, none⟩) hbs).trans a1; have hx1 := (b5.cell (p := ⟨n1, 0, none⟩) hn1).trans hx1; have hx2 := (b5.cell (p := ⟨n2, 0, none⟩) hn2).trans hx2; have HX := Lib.hid b5; clear hx hc4 b4 b5))
    all_goals
      go_wp2
      go_ret
      exact ⟨_, rfl, rfl, HN.out _ (Below.drewN' HX.out 0)⟩

set_option maxRecDepth 100000 in
set_option maxHeartbeats 4000000 in
theorem spoil1_good (M : Nat → Prop) (g0 n1 n2 k : Nat) (L : List Let) (A : Option Addr) (c : Nat) (xs : List Value) (b : Nat) (a : Int) (m : UInt8) (w : World) (hA : A = some ⟨b, 0, none⟩) (hn : NetAt w M g0 L A c xs) (hk : k < L.length)
    (hx1 : w.cell? ⟨n1, 0, none⟩ = some (.int .i64 a)) (hx2 : w.cell? ⟨n2, 0, none⟩ = some (u8v m)) (ha1 : -9223372036854775808 ≤ a) (ha2 : a ≤ 9223372036854775807) (l' : List UInt8) (hl' : l'.length = L[k].fr.length) (hs : spoilL L[k].fr a m = (l', 0)) :
    Calls Try.prog 42 #[.pointer (some ⟨b, k * 3, none⟩), .pointer (some ⟨n1, 0, none⟩), .pointer (some ⟨n2, 0, none⟩)] w (Errs fun n w' => n = (if L[k].sp then 13 else 0) ∧ NetO w' (Plus M w w') g0 (if L[k].sp then L else L.set k ⟨L[k].to, l', true⟩) ∧ Only M w w') := by
  obtain ⟨b', B, d, hA', hMb, hbg, hbs, ⟨a0, a1, a2⟩, hfz, hto, hfr, hd, hF⟩ := net_row hn hk
  rw [hA] at hA'
  injection hA' with hA'
  injection hA' with hA' _ _
  subst hA'
  have HN := Lib.hid fun w' (h : Below w.heap.size w w') => net_same hn h
  have HS := Lib.hid fun w4 A4 c4 (b4 : Below w.heap.size w w4) (hx : Own w4 w.heap.size A4 l') (hc4 : l'.length ≤ c4) => net_spoil hn hk hA b4 hx (by omega) hc4
  have hC : Hid (∀ W, Below w.heap.size w W → Calls Try.prog 43 #[.slice B L[k].fr.length d, .int .i64 a, u8v m] W (AnsO W (l', 0))) := fun W hW => by
    rw [← hs]; exact spoil_own B d W.heap.size L[k].fr a m W ((hF.at (B := w.heap.size) fun g hg => hn.2.2.2.2.2.2.2 g hg.1).arg hW) (Nat.le_refl _) (by omega) ha1 ha2
  obtain ⟨x, hx⟩ : ∃ x, x = L[k] := ⟨_, rfl⟩
  rw [← hx] at a0 a1 a2 hC HS ⊢
  clear hF hA hn hto hfr hd hs hx hl'
  obtain ⟨xt, xf, xs⟩ := x
  have hn1 : n1 < w.heap.size := World.block_lt_of_cell? w _ hx1
  have hn2 : n2 < w.heap.size := World.block_lt_of_cell? w _ hx2
  unfold u8v at hx2
  unfold u8v at hC
  simp only at a0 a1 a2 hC HS ⊢
  cases xs
  all_goals
    go_enter Try.func42, Try.ntmps42
    go_wp2_with fail
    go_region_held3 (fun w' => w'.cell? ⟨n1, 0, none⟩ = some (.int .i64 a) ∧ w'.cell? ⟨n2, 0, none⟩ = some (.int .u8 (m.toNat : Int)) ∧ w'.cell? ⟨b, k * 3 + 1, none⟩ = some (.slice B xf.length d)) (go_keep) (first | (go_at_call 43; (with_reducible refine (hC.out _ (Below.refl _ _).drew).mono ?_); rintro e w4 ⟨A4, c4, rfl, hx, hc4, b4⟩; have b5 : Below w.heap.size w w4 := ⟨b4.os, b4.tape, b4.output, b4.size, b4.block⟩; have a0 := (b5.cell (p := ⟨b, k * 3, none⟩) hbs).trans a0; have a1 := (b5.cell (p := ⟨b, k * 3 + 1, none⟩) hbs).trans a1; have a2 := (b5.cell (p := ⟨b, k * 3 + 2, none⟩) hbs).trans a2; have f1 := (b5.frozen (p := ⟨b, k * 3 + 1, none⟩) hbs).trans (hfz _); have f2 := (b5.frozen (p := ⟨b, k * 3 + 2, none⟩) hbs).trans (hfz _); have hx1 := (b5.cell (p := ⟨n1, 0, none⟩) hn1).trans hx1; have hx2 := (b5.cell (p := ⟨n2, 0, none⟩) hn2).trans hx2; have HX := Lib.hid (And.intro hx (And.intro hc4 b5)); clear hx hc4 b4 b5))
    all_goals
      go_wp2
      first
        | (go_ret; exact ⟨_, rfl, rfl, HN.out _ HX.out.2.2⟩)
        | (go_ret; exact ⟨_, rfl, rfl, HS.out _ _ _ HX.out.2.2 HX.out.1 HX.out.2.1⟩)

theorem spoil1_any (M : Nat → Prop) (g0 n1 n2 k : Nat) (L : List Let) (A : Option Addr) (c : Nat) (xs : List Value) (b : Nat) (a : Int) (m : UInt8) (w : World) (hA : A = some ⟨b, 0, none⟩) (hn : NetAt w M g0 L A c xs) (hk : k < L.length)
    (hx1 : w.cell? ⟨n1, 0, none⟩ = some (.int .i64 a)) (hx2 : w.cell? ⟨n2, 0, none⟩ = some (u8v m)) (ha1 : -9223372036854775808 ≤ a) (ha2 : a ≤ 9223372036854775807) :
    Calls Try.prog 42 #[.pointer (some ⟨b, k * 3, none⟩), .pointer (some ⟨n1, 0, none⟩), .pointer (some ⟨n2, 0, none⟩)] w (Errs fun n w' => n = (spoilX L[k] a m).2 ∧ NetO w' (Plus M w w') g0 (L.set k (spoilX L[k] a m).1) ∧ Only M w w') := by
  have hself : L.set k L[k] = L := List.set_getElem_self hk
  rcases spoilL_cases L[k].fr a m with hs | hs | ⟨l', hl, hs⟩
  · have e : spoilX L[k] a m = (L[k], 17) := by unfold spoilX; rw [hs]; rfl
    rw [e]; simp only [hself]
    exact spoil1_bad M g0 n1 n2 k L A c xs b a m w hA hn hk hx1 hx2 ha1 ha2 17 (.inl rfl) hs
  · have e : spoilX L[k] a m = (L[k], 2) := by unfold spoilX; rw [hs]; rfl
    rw [e]; simp only [hself]
    exact spoil1_bad M g0 n1 n2 k L A c xs b a m w hA hn hk hx1 hx2 ha1 ha2 2 (.inr rfl) hs
  · have h := spoil1_good M g0 n1 n2 k L A c xs b a m w hA hn hk hx1 hx2 ha1 ha2 l' hl hs
    have e : spoilX L[k] a m = if L[k].sp then (L[k], 13) else (⟨L[k].to, l', true⟩, 0) := by unfold spoilX; rw [hs]; rfl
    rw [e]
    cases hsp : L[k].sp
    · rw [hsp] at h; simpa using h
    · rw [hsp] at h; simpa [hself] using h

set_option maxRecDepth 100000 in
set_option maxHeartbeats 4000000 in
theorem netSpoil_in (M : Nat → Prop) (g0 k : Nat) (L : List Let) (a : Int) (m : UInt8) (w : World) (h : NetO w M g0 L) (hk : k < L.length) (hL : L.length ≤ 1000000) (ha1 : -9223372036854775808 ≤ a) (ha2 : a ≤ 9223372036854775807) :
    Calls Try.prog 19 #[.pointer (some ⟨g0, 0, none⟩), .int .i64 (k : Int), .int .i64 a, u8v m] w (NetDid w M g0 (L.set k (spoilX L[k] a m).1) (spoilX L[k] a m).2) := by
  obtain ⟨A, c, xs, hn⟩ := h
  obtain ⟨w1, hw1⟩ : ∃ w1, (w.alloc (.cells #[.int .i64 a] 3)).alloc (.cells #[u8v m] 5) = w1 := ⟨_, rfl⟩
  have b1 : Below w.heap.size w w1 := by rw [← hw1]; exact ((Below.refl _ w).alloc (Nat.le_refl _) _).alloc (by simp) _
  have hx1 : w1.cell? ⟨w.heap.size, 0, none⟩ = some (.int .i64 a) := by
    rw [← hw1, cell_of_row _ _ 0 _ _ (0, 0) (heap_alloc2_old w _ _)]; rfl
  have hx2 : w1.cell? ⟨w.heap.size + 1, 0, none⟩ = some (u8v m) := by
    rw [← hw1, cell_of_row _ _ 0 _ _ (0, 0) (heap_alloc2_new w _ _)]; rfl
  have hn1 : NetAt w1 M g0 L A c xs := hn.below b1
  have HC := Lib.hid (withSpoil_in (.pointer (some ⟨w.heap.size, 0, none⟩)) (.pointer (some ⟨w.heap.size + 1, 0, none⟩)) hn1 hk hL fun b hA => spoil1_any M g0 w.heap.size (w.heap.size + 1) k L A c xs b a m w1 hA hn1 hk hx1 hx2 ha1 ha2)
  obtain ⟨L', hL'⟩ : ∃ L', L' = L.set k (spoilX L[k] a m).1 := ⟨_, rfl⟩
  obtain ⟨q, hq⟩ : ∃ q, q = (spoilX L[k] a m).2 := ⟨_, rfl⟩
  rw [← hL', ← hq] at HC ⊢
  have HF := Lib.hid fun w' (h1 : NetO w' (Plus M w1 w') g0 L') (h2 : Only M w1 w') => net_wider hn b1 h1 h2
  unfold u8v at hw1
  have HW := Lib.hid hw1
  clear hw1 hn1 hn hx1 hx2 hL' hq
  unfold u8v
  go_enter Try.func19, Try.ntmps19
  go_wp2_with fail
  rw [HW.out]
  ((with_reducible refine HC.out.mono ?_); rintro e w4 ⟨n, rfl, rfl, h1, h2⟩)
  have HN := Lib.hid (HF.out w4 h1 h2)
  clear h1 h2
  go_wp2
  go_ret
  exact ⟨rfl, HN.out⟩
end Go.Proofs.Ytponmokiogdejaa
