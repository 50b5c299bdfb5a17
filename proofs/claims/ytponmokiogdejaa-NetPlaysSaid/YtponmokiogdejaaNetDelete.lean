import Derived.Test.YtponmokiogdejaaNetDrop
import Derived.Deep.RegionLaw
import Derived.Deep.RegionHeld3
namespace Go.Proofs.Ytponmokiogdejaa
open Go.RowKit
set_option linter.unusedSimpArgs false
set_option linter.unusedVariables false

theorem row_one {w : World} {S : Nat → Prop} {xs : List Value} {L : List Let} (h : RowsO 3 (LetO w S) xs L) : ∀ u ∈ xs, u.oneCell' = true := by
  intro u hu
  obtain ⟨i, hi, rfl⟩ := List.getElem_of_mem hu
  have hl := h.1
  have hj : i / 3 < L.length := by omega
  obtain ⟨A, c, e, -⟩ := h.2 (i / 3) _ (List.getElem?_eq_getElem hj)
  have hm : xs[i] ∈ (xs.drop (i / 3 * 3)).take 3 := by
    refine List.mem_of_getElem? (i := i % 3) ?_
    rw [List.getElem?_take, if_pos (by omega), List.getElem?_drop, show i / 3 * 3 + i % 3 = i by omega, List.getElem?_eq_getElem hi]
  rw [e] at hm
  exact one3 _ _ _ _ _ _ hm

set_option maxHeartbeats 4000000 in
set_option maxRecDepth 100000 in
theorem delete_any (b n k c : Nat) (xs : List Value) (w : World) (hown : w.ownsRow 0 47 3 (.slice (some ⟨b, 0, none⟩) n c) n xs) (h1 : ∀ u ∈ xs, u.oneCell' = true) (hk : k < n) (hn : n ≤ 1000000) :
    Calls Try.prog 36 #[.slice (some ⟨b, 0, none⟩) n c, .int .i64 (k : Int), .int .i64 ((k : Int) + 1)] w fun e w' => e = .returned (.slice (some ⟨b, 0, none⟩) (n - 1) c) ∧ w' = dropW w.drew b n k xs := by
  obtain ⟨i0, hi0, hz0, hz1, hz2⟩ := info_parts info_letter
  have hx := hown.1
  have hnc : n ≤ c ∧ c ≤ maxLen := by
    rcases hown.2 with ⟨h0, _⟩ | ⟨g, cap, cur, hv, hg, hh, hnc, hcm, _⟩
    · cases h0
    · injection hv with _ _ hv3
      subst hv3
      exact ⟨hnc, hcm⟩
  obtain ⟨hnc, hcm⟩ := hnc
  unfold maxLen at hcm
  obtain ⟨news, hnews⟩ : ∃ news, news = xs.drop ((k + 1) * 3) := ⟨_, rfl⟩
  have hlen : news.length = (n - (k + 1)) * 3 := by rw [hnews, List.length_drop, hx]; omega
  obtain ⟨A, hA, hsrc⟩ : ∃ A : Addr, (if c = k + 1 then (some ⟨b, 0, none⟩ : Option Addr) else some ⟨b, (k + 1) * 3, none⟩) = some A ∧ Hid (∀ t u, news[t]? = some u → w.drew.cell? (A.add t) = some u) := by
    by_cases h : c = k + 1
    · refine ⟨⟨b, 0, none⟩, by simp [h], fun t u hu => ?_⟩
      have h0 : news.length = 0 := by rw [hlen]; omega
      rw [List.length_eq_zero_iff.1 h0] at hu
      simp at hu
    · refine ⟨⟨b, (k + 1) * 3, none⟩, by simp [h], fun t u hu => ?_⟩
      have ht : t < (n - (k + 1)) * 3 := by
        have := (List.getElem?_eq_some_iff.1 hu).1
        rwa [hlen] at this
      rw [hnews, List.getElem?_drop] at hu
      rw [Addr.add_lit]
      exact (hown.cellAt ((k + 1) * 3 + t) (by omega)).trans hu
  have s1 : Hid (news.length = (n - (k + 1)) * 3) := hlen
  have s2 : Hid (∀ u ∈ news, u.oneCell' = true) := fun u hu => h1 u (by rw [hnews] at hu; exact List.mem_of_mem_drop hu)
  have s3 : Hid (∀ t, t < news.length → (w.drew.cell? ⟨b, 0 + k * 3 + t, none⟩).isSome = true ∧ w.drew.frozen? ⟨b, 0 + k * 3 + t, none⟩ = false) := by
    intro t ht
    rw [hlen] at ht
    refine ⟨?_, hown.frozenAt _⟩
    show (w.cell? _).isSome = true
    rw [hown.cellAt (0 + k * 3 + t) (by omega), List.getElem?_eq_getElem (by omega)]
    rfl
  obtain ⟨W1, hW1⟩ : ∃ W1, W1 = w.drew.setCells b (0 + k * 3) news := ⟨_, rfl⟩
  have hcl : ∀ ty, (Builtin.clear_ #[25] ty #[.slice (some ⟨b, (k + (n - (k + 1))) * 3, none⟩) (n - (k + (n - (k + 1)))) (c - (k + (n - (k + 1))))]).run Try.prog W1 = .ok (.tuple #[]) (W1.setCells b ((k + (n - (k + 1))) * 3) noLet) := fun ty => by
    rw [show n - (k + (n - (k + 1))) = 1 by omega]
    refine clear_let W1 ty b _ _ (fun j hj => ?_) (fun j hj => ?_)
    · rw [hW1, World.cell?_setCells_out b _ _ _ _ (fun _ _ => .inr (by rw [hlen]; simp; omega))]
      show (w.cell? _).isSome = true
      rw [hown.cellAt _ (by omega), List.getElem?_eq_getElem (by omega)]
      rfl
    · rw [hW1, World.frozen?_setCells]
      exact hown.frozenAt _
  have hW : Hid (W1 = w.drew.setCells b (0 + k * 3) news) := hW1
  have hres : Hid (W1.setCells b ((k + (n - (k + 1))) * 3) noLet = dropW w.drew b n k xs) := by
    rw [hW1, hnews, Nat.zero_add, show k + (n - (k + 1)) = n - 1 by omega]
    rfl
  have hic : k ≤ c := by omega
  have hjc : k + 1 ≤ c := by omega
  have hjn : k + 1 ≤ n := by omega
  have hj1 : (k : Int) + 1 ≤ (n : Int) := by omega
  have hj0 : 0 ≤ (k : Int) + 1 := by omega
  clear hW1 hown hnews hlen h1
  go_enter Try.func36, Try.ntmps36
  go_wp2_with fail
  go_region_law (refine step_append_room rfl (.tmp 22) (.tmp 25) 25 rfl 47 i0 3 Try.underlying25 hi0 hz1 b 0 k c (by simp [Act.eval, Act.put]) A (n - (k + 1)) (c - (k + 1)) news (by simp [Act.eval, Act.put]) s1.out hsrc.out s2.out (by omega) s3.out ?_; rw [← hW.out])
  go_wp2
  go_ret
  exact ⟨by rw [show n - 1 = k + (n - (k + 1)) by omega]; rfl, hres.out⟩

/-- A letter that is dropped. -/
theorem net_drop {w : World} {M : Nat → Prop} {g0 k b : Nat} {L : List Let} {A : Option Addr} {c : Nat} {xs : List Value} (h : NetAt w M g0 L A c xs) (hk : k < L.length) (hA : A = some ⟨b, 0, none⟩) :
    NetO ((dropW w.drew b L.length k xs).setCell ⟨g0, 0, none⟩ (.slice (some ⟨b, 0, none⟩) (L.length - 1) c)) (Plus M w ((dropW w.drew b L.length k xs).setCell ⟨g0, 0, none⟩ (.slice (some ⟨b, 0, none⟩) (L.length - 1) c))) g0 (L.eraseIdx k) ∧
      Only M w ((dropW w.drew b L.length k xs).setCell ⟨g0, 0, none⟩ (.slice (some ⟨b, 0, none⟩) (L.length - 1) c)) := by
  subst hA
  obtain ⟨h1, h2, h3, h4, h5, h6, h7, h8⟩ := h
  have hb := h7 b rfl
  have hd : ∀ i, i ≠ b → (dropW w.drew b L.length k xs).heap[i]? = w.heap[i]? := fun i hi => dropW_out w.drew b L.length k xs i hi
  have hs := dropW_same w.drew b L.length k xs
  have ho := dropW_own (w := w.drew) h3.drew hk
  obtain ⟨V, hV⟩ : ∃ V, V = dropW w.drew b L.length k xs := ⟨_, rfl⟩
  rw [← hV] at hd hs ho ⊢
  have hg : V.heap[g0]? = w.heap[g0]? := hd g0 hb.2.symm
  have c0 : V.cell? ⟨g0, 0, none⟩ = some (.slice (some ⟨b, 0, none⟩) L.length c) := (World.cell?_of_block (a := ⟨g0, 0, none⟩) hg).trans h1
  obtain ⟨W, hW⟩ : ∃ W, W = V.setCell ⟨g0, 0, none⟩ (.slice (some ⟨b, 0, none⟩) (L.length - 1) c) := ⟨_, rfl⟩
  rw [← hW]
  have sW : W.heap.size = w.heap.size := by rw [hW]; simp [World.setCell]; exact hs.1
  have kW : ∀ i, i ≠ b → i ≠ g0 → W.heap[i]? = w.heap[i]? := fun i hi hi2 => by rw [hW]; exact (Below.heap_setCell _ _ _ i hi2).trans (hd i hi)
  have oW : W.os = w.os ∧ W.tape = w.tape ∧ W.output = w.output := by rw [hW]; exact ⟨hs.2.1, hs.2.2.1, hs.2.2.2⟩
  have hl : (L.eraseIdx k).length = L.length - 1 := by rw [List.length_eraseIdx, if_pos hk]
  refine ⟨⟨some ⟨b, 0, none⟩, c, lessRows xs k, ?_⟩, oW.1, oW.2.1, oW.2.2, by omega, fun i hi hn => kW i (fun e => hn (e ▸ hb.1)) (fun e => hn (e ▸ h5))⟩
  unfold NetAt
  rw [hl]
  refine ⟨by rw [hW]; exact World.cell?_setCell_same _ _ _ c0, ?_, ?_, ?_, .inl h5, by omega, fun i hi => ⟨.inl (h7 i hi).1, (h7 i hi).2⟩, fun i hi => ?_⟩
  · rw [hW, World.frozen?_setCell]
    exact (World.frozen?_of_block (a := ⟨g0, 0, none⟩) hg).trans h2
  · rw [hW]
    exact own_setO ho (fun i hi => by
      have hi : some b = some i := hi
      injection hi with hi
      rw [← hi]
      exact hb.2) _
  · refine (lessRows_rows h4 hk).mono fun ds x hx => hx.keep (fun g hg => ⟨.inl hg.1, hg.2⟩) fun p hp => ?_
    have hk : W.heap[p.block]? = w.heap[p.block]? := kW _ (fun e => hp.2.1 (by rw [e]; rfl)) hp.2.2
    exact ⟨World.cell?_of_block hk, World.frozen?_of_block hk⟩
  · rcases hi with hi | hi
    · have := h8 i hi; omega
    · exact hi.2

@[local go_sem] def ld9 : Oper := { dst := some 9, op := Op.load 25 (Operand.tmp 8), type := 25, pos := "net.go:81", after := #[{ on := 3, ground := Ground.data }], guard := none }
set_option maxRecDepth 100000 in
set_option maxHeartbeats 8000000 in
theorem drop1_any (M : Nat → Prop) (g0 n0 n1 k : Nat) (L : List Let) (A : Option Addr) (c : Nat) (xs : List Value) (b : Nat) (w : World) (hA : A = some ⟨b, 0, none⟩) (hn : NetAt w M g0 L A c xs) (hk : k < L.length) (hL : L.length ≤ 1000000) (hbx : w.cell? ⟨n0, 0, none⟩ = some (.pointer (some ⟨g0, 0, none⟩))) (hbk : w.cell? ⟨n1, 0, none⟩ = some (.int .i64 (k : Int))) (hnM : ¬ M n0) (hnM1 : ¬ M n1) :
    Calls Try.prog 35 #[.pointer (some ⟨b, k * 3, none⟩), .pointer (some ⟨n0, 0, none⟩), .pointer (some ⟨n1, 0, none⟩)] w (Errs fun n w' => n = 0 ∧ NetO w' (Plus M w w') g0 (L.eraseIdx k) ∧ Only M w w') := by
  have hF := net_drop (w := w.drew) hn hk hA
  have HF := Lib.hid (And.intro (show NetO ((dropW w.drew.drew b L.length k xs).setCell ⟨g0, 0, none⟩ (.slice (some ⟨b, 0, none⟩) (L.length - 1) c)) (Plus M w ((dropW w.drew.drew b L.length k xs).setCell ⟨g0, 0, none⟩ (.slice (some ⟨b, 0, none⟩) (L.length - 1) c))) g0 (L.eraseIdx k) from hF.1) (show Only M w _ from ⟨hF.2.os, hF.2.tape, hF.2.output, hF.2.size, hF.2.block⟩))
  clear hF
  obtain ⟨q0, qf, hown, hrow, hMg, hg0, hob, hM⟩ := hn
  have h1 := row_one hrow
  subst hA
  have hb := hob b rfl
  have HC := Lib.hid (delete_any b L.length k c xs w.drew hown.drew h1 hk hL)
  have hkeep : Hid (∀ i v, i ≠ b → w.cell? ⟨i, 0, none⟩ = some v → (dropW w.drew.drew b L.length k xs).cell? ⟨i, 0, none⟩ = some v) := fun i v hi h => (World.cell?_of_block (a := ⟨i, 0, none⟩) (dropW_out w.drew.drew b L.length k xs i hi)).trans h
  have hfz : Hid ((dropW w.drew.drew b L.length k xs).frozen? ⟨g0, 0, none⟩ = false) := (World.frozen?_of_block (a := ⟨g0, 0, none⟩) (dropW_out w.drew.drew b L.length k xs g0 hb.2.symm)).trans qf
  have hgb : g0 ≠ b := hb.2.symm
  have hn0b : n0 ≠ b := fun e => hnM (e ▸ hb.1)
  have hn1b : n1 ≠ b := fun e => hnM1 (e ▸ hb.1)
  have hng : n0 ≠ g0 := fun e => hnM (e ▸ hMg)
  have hng1 : n1 ≠ g0 := fun e => hnM1 (e ▸ hMg)
  have hng2 := hng.symm
  have hng3 := hng1.symm
  have hwr : IntKind.i64.wrap ((k : Int) + 1) = (k : Int) + 1 := by rw [IntKind.wrap_i64]; omega
  clear hown hrow h1 hob hM hb
  go_enter Try.func35, Try.ntmps35
  go_wp2_with fail
  rw [show ({ dst := some 9, op := Op.load 25 (Operand.tmp 8), type := 25, pos := "net.go:81", after := #[{ on := 3, ground := Ground.data }], guard := none } : Oper) = ld9 from rfl]
  go_region_held3 (fun w' => w'.cell? ⟨n0, 0, none⟩ = some (.pointer (some ⟨g0, 0, none⟩)) ∧ w'.cell? ⟨n1, 0, none⟩ = some (.int .i64 (k : Int)))
    (go_keep)
    (first
      | (go_at_call 36; (with_reducible refine HC.out.mono ?_); rintro e w4 ⟨rfl, hw4⟩; have hbx := hkeep.out n0 _ hn0b hbx; have hbk := hkeep.out n1 _ hn1b hbk; have q0 := hkeep.out g0 _ hgb q0; have qf := hfz.out; rw [← hw4] at hbx hbk q0 qf; have HW := Lib.hid hw4; clear hw4))
  all_goals
    go_wp2
    go_ret
    rw [HW.out]
    exact ⟨0, rfl, rfl, HF.out⟩

set_option maxRecDepth 100000 in
set_option maxHeartbeats 4000000 in
theorem drop_in (M : Nat → Prop) (g0 k : Nat) (L : List Let) (w : World) (h : NetO w M g0 L) (hk : k < L.length) (hL : L.length ≤ 1000000) :
    Calls Try.prog 15 #[.pointer (some ⟨g0, 0, none⟩), .int .i64 (k : Int)] w (NetDid w M g0 (L.eraseIdx k) 0) := by
  obtain ⟨A, c, xs, hn⟩ := h
  obtain ⟨w1, hw1⟩ : ∃ w1, (w.alloc (.cells #[.pointer (some ⟨g0, 0, none⟩)] 24)).alloc (.cells #[.int .i64 (k : Int)] 3) = w1 := ⟨_, rfl⟩
  have b1 : Below w.heap.size w w1 := by rw [← hw1]; exact ((Below.refl _ w).alloc (Nat.le_refl _) _).alloc (by simp) _
  have hx1 : w1.cell? ⟨w.heap.size, 0, none⟩ = some (.pointer (some ⟨g0, 0, none⟩)) := by
    rw [← hw1, cell_of_row _ _ 0 _ _ (0, 0) (heap_alloc2_old w _ _)]; rfl
  have hx2 : w1.cell? ⟨w.heap.size + 1, 0, none⟩ = some (.int .i64 (k : Int)) := by
    rw [← hw1, cell_of_row _ _ 0 _ _ (0, 0) (heap_alloc2_new w _ _)]; rfl
  have hn1 : NetAt w1 M g0 L A c xs := hn.below b1
  have HC := Lib.hid (withDrop_in (.pointer (some ⟨w.heap.size, 0, none⟩)) (.pointer (some ⟨w.heap.size + 1, 0, none⟩)) hn1 hk hL fun b hA => drop1_any M g0 w.heap.size (w.heap.size + 1) k L A c xs b w1 hA hn1 hk hL hx1 hx2 (fun hm => by have := hn.2.2.2.2.2.2.2 _ hm; omega) (fun hm => by have := hn.2.2.2.2.2.2.2 _ hm; omega))
  obtain ⟨L', hL'⟩ : ∃ L', L' = L.eraseIdx k := ⟨_, rfl⟩
  rw [← hL'] at HC ⊢
  have HF := Lib.hid fun w' (h1 : NetO w' (Plus M w1 w') g0 L') (h2 : Only M w1 w') => net_wider hn b1 h1 h2
  have HW := Lib.hid hw1
  clear hw1 hn1 hn hx1 hx2 hL'
  go_enter Try.func15, Try.ntmps15
  go_wp2_with fail
  rw [HW.out]
  ((with_reducible refine HC.out.mono ?_); rintro e w4 ⟨n, rfl, rfl, h1, h2⟩)
  have HN := Lib.hid (HF.out w4 h1 h2)
  clear h1 h2
  go_wp2
  go_ret
  exact ⟨rfl, HN.out⟩
end Go.Proofs.Ytponmokiogdejaa
