import Derived.Test.YtponmokiogdejaaNetDo
namespace Go.Proofs.Ytponmokiogdejaa
open Go.RowKit
set_option linter.unusedSimpArgs false
set_option linter.unusedVariables false

/-- An old net, the document's one, and a new net. -/
def ON (w : World) (g0 r0 g : Nat) (L1 L : List Let) (V : World) : Prop := ∃ M S N : Nat → Prop, NetO V M g0 L1 ∧ RefO V S r0 L ∧ NetO V N g L ∧ Below w.heap.size w V ∧ (∀ k, M k → w.heap.size ≤ k ∧ ¬ S k ∧ k ≠ r0 ∧ ¬ N k) ∧ (∀ k, N k → w.heap.size ≤ k ∧ ¬ S k ∧ k ≠ r0) ∧ w.heap.size ≤ r0
theorem ON.nr {w V : World} {g0 r0 g : Nat} {L1 L : List Let} (h : ON w g0 r0 g L1 L V) : NR w g r0 L L V := by
  obtain ⟨M, S, N, h1, h2, h3, h4, h5, h6, h7⟩ := h
  exact ⟨N, S, h3, h2, h4, h6, h7⟩
theorem ON.then {w V V' : World} {g0 r0 g : Nat} {L1 L : List Let} (h : ON w g0 r0 g L1 L V) (hb : Below V.heap.size V V') : ON w g0 r0 g L1 L V' := by
  obtain ⟨M, S, N, h1, ⟨A, c, xs, h2⟩, h3, h4, h5, h6, h7⟩ := h
  exact ⟨M, S, N, h1.below hb, ⟨A, c, xs, h2.below hb⟩, h3.below hb, h4.trans (hb.mono h4.size), h5, h6, h7⟩
theorem ON.did {w V V' : World} {g0 r0 g : Nat} {L1' L : List Let} {M S N : Nat → Prop} (h2 : RefO V S r0 L) (h3 : NetO V N g L) (h4 : Below w.heap.size w V) (h5 : ∀ k, M k → w.heap.size ≤ k ∧ ¬ S k ∧ k ≠ r0 ∧ ¬ N k) (h6 : ∀ k, N k → w.heap.size ≤ k ∧ ¬ S k ∧ k ≠ r0) (h7 : w.heap.size ≤ r0) (d1 : NetO V' (Plus M V V') g0 L1') (d2 : Only M V V') : ON w g0 r0 g L1' L V' := by
  obtain ⟨A, c, xs, h2⟩ := h2
  have s := h4.size
  have hS := h2.2.2.2.2.2.2.2
  have hr := h2.2.2.2.2.2.2.1
  have hN := h3.lt
  refine ⟨Plus M V V', S, N, d1, ⟨A, c, xs, h2.keep d2.size fun k hk => d2.block k ?_ fun hm => ?_⟩, h3.keep d2 (fun k hk hm => (h5 k hm).2.2.2 hk), h4.trans (d2.below (by omega) fun k hk => (h5 k hk).1), fun k hk => ?_, h6, h7⟩
  · rcases hk with hk | rfl
    · exact hS k hk
    · exact hr
  · rcases hk with hk | rfl
    · exact (h5 k hm).2.1 hk
    · exact (h5 k hm).2.2.1 rfl
  · rcases hk with hk | hk
    · exact h5 k hk
    · exact ⟨by omega, fun h => by have := hS k h; omega, by omega, fun h => by have := hN k h; omega⟩
def DidON (w : World) (g0 r0 g : Nat) (m : Nat) (L : List Let) (e : Ending) (V : World) : Prop := ∃ (q : Nat) (L1 : List Let), e = .returned (.int .i64 (q : Int)) ∧ L1.length ≤ m ∧ ON w g0 r0 g L1 L V
theorem copy_on {w W : World} {g0 r0 : Nat} {L : List Let} (h : NR w g0 r0 L L W) (hL : L.length ≤ 1000000) :
    Calls Try.prog 28 #[.pointer (some ⟨g0, 0, none⟩)] W fun e w' => ∃ g, e = .returned (.pointer (some ⟨g, 0, none⟩)) ∧ ON w g0 r0 g L L w' := by
  obtain ⟨M, S, h1, ⟨A, c, xs, h2⟩, h3, h4, h5⟩ := h
  refine (copy_net M g0 L W h1 hL).mono fun e w' ⟨g, he, hg, hn, hb⟩ => ⟨g, he, M, S, _, h1.below hb, ⟨A, c, xs, h2.below hb⟩, hn, h3.trans (hb.mono h3.size), fun k hk => ⟨(h4 k hk).1, (h4 k hk).2.1, (h4 k hk).2.2, fun hk2 => by have := h1.lt k hk; omega⟩, fun k hk => ⟨by have := h3.size; omega, fun hs => by have := h2.2.2.2.2.2.2.2 k hs; omega, fun e => by have := h2.2.2.2.2.2.2.1; omega⟩, h5⟩
theorem spoil_on {w V : World} {g0 r0 g : Nat} {L1 L : List Let} (h : ON w g0 r0 g L1 L V) (hL : L1.length ≤ 1000000) :
    Calls Try.prog 19 #[.pointer (some ⟨g0, 0, none⟩), .int .i64 0, .int .i64 0, .int .u8 7] V (DidON w g0 r0 g L1.length L) := by
  have hh := h
  obtain ⟨M, S, N, h1, h2, h3, h4, h5, h6, h7⟩ := h
  by_cases hk : 0 < L1.length
  · exact (netSpoil_in M g0 0 L1 0 7 V h1 hk hL (by omega) (by omega)).mono fun e w' ⟨he, d1, d2⟩ => ⟨_, _, he, by simp, ON.did h2 h3 h4 h5 h6 h7 d1 d2⟩
  · obtain ⟨A, c, xs, hn⟩ := h1
    exact (spoilOut_any 0 0 7 V hn.1 (by omega)).mono fun e w' ⟨he, hb⟩ => ⟨17, L1, he, Nat.le_refl _, hh.then hb⟩
theorem drop_on {w V : World} {g0 r0 g : Nat} {L1 L : List Let} (h : ON w g0 r0 g L1 L V) (hL : L1.length ≤ 1000000) :
    Calls Try.prog 15 #[.pointer (some ⟨g0, 0, none⟩), .int .i64 0] V (DidON w g0 r0 g L1.length L) := by
  have hh := h
  obtain ⟨M, S, N, h1, h2, h3, h4, h5, h6, h7⟩ := h
  by_cases hk : 0 < L1.length
  · exact (drop_in M g0 0 L1 V h1 hk hL).mono fun e w' ⟨he, d1, d2⟩ => ⟨0, _, he, by rw [List.length_eraseIdx, if_pos hk]; omega, ON.did h2 h3 h4 h5 h6 h7 d1 d2⟩
  · obtain ⟨A, c, xs, hn⟩ := h1
    exact (dropOut_any 0 V hn.1 (by omega)).mono fun e w' ⟨he, hb⟩ => ⟨17, L1, he, Nat.le_refl _, hh.then hb⟩
theorem send_on {w V : World} {g0 r0 g : Nat} {L1 L : List Let} (h : ON w g0 r0 g L1 L V) (hL : L1.length ≤ 1000000) (B : Option Addr) (hB : At V V.heap.size 1 B 1 (([9] : List UInt8).map u8v)) :
    Calls Try.prog 14 #[.pointer (some ⟨g0, 0, none⟩), .int .u64 1, .slice B 1 1] V fun e w' => e = .returned (.int .i64 0) ∧ ∃ L2, ON w g0 r0 g L2 L w' := by
  obtain ⟨M, S, N, h1, h2, h3, h4, h5, h6, h7⟩ := h
  exact (send_any M g0 L1 1 [9] B 1 V h1 hL hB (by simp) (by omega)).mono fun e w' ⟨he, d1, d2⟩ => ⟨he, _, ON.did h2 h3 h4 h5 h6 h7 d1 d2⟩

set_option maxRecDepth 100000 in
set_option maxHeartbeats 8000000 in
theorem do_copy (w W : World) (g0 r0 : Nat) (L : List Let) (a : NAct) (B : Option Addr) (d : Nat) (h : NR w g0 r0 L L W) (hL : L.length ≤ 1000000) (hk : a.kind = 6) :
    Calls Try.prog 10 #[.pointer (some ⟨g0, 0, none⟩), .pointer (some ⟨r0, 0, none⟩), .agg (a.cells B d)] W (DoPost w r0 (a.step L)) := by
  have hstep : a.step L = L := by
    unfold NAct.step
    rw [hk]
    simp
  rw [hstep]
  obtain ⟨wb, hwb⟩ : ∃ wb, W.alloc (.cells (a.cells B d) 36) = wb := ⟨_, rfl⟩
  have bb : Below W.heap.size W wb := by rw [← hwb]; exact (Below.refl _ W).alloc (Nat.le_refl _) _
  have ha : wb.heap[W.heap.size]? = some (.cells (a.cells B d) 36 (0, 0)) := by rw [← hwb]; exact heap_alloc_new W _
  obtain ⟨c0, c1, c2, c3, c4, c5⟩ := act_cells ha
  rw [hk] at c0
  have C1 := Lib.hid (copy_on (h.then bb) hL)
  unfold NAct.cells at hwb ⊢
  rw [hk] at hwb ⊢
  clear h ha bb hstep hk c1 c2 c3 c4 c5
  go_enter Try.func10, Try.ntmps10
  go_wp2_with fail
  clear hwb
  ((with_reducible refine C1.out.mono ?_); rintro e w3 ⟨g, rfl, s3⟩)
  clear C1 c0
  go_wp2_with fail
  ((with_reducible refine (spoil_on s3 hL).mono ?_); rintro e w4 ⟨q4, L4, rfl, l4, s4⟩)
  clear s3
  go_wp2_with fail
  ((with_reducible refine (drop_on s4 (by omega)).mono ?_); rintro e w5 ⟨q5, L5, rfl, l5, s5⟩)
  clear s4
  go_wp2_with fail
  have b6 : Below w5.heap.size w5 (w5.alloc (.cells #[.int .u8 9] 5)) := (Below.refl _ w5).alloc (Nat.le_refl _) _
  ((with_reducible refine (send_on (s5.then b6) (by omega) (some ⟨w5.heap.size, 0, none⟩) ?_).mono ?_))
  · exact (At.new w5 ([9].map u8v) 5 1 1 rfl).more (by simp)
  rintro e w6 ⟨rfl, L6, s6⟩
  have HF := Lib.hid s6.nr
  clear s5 s6 b6
  go_wp2
  go_ret2
  exact ⟨g, rfl, HF.out⟩
/-- What is told lies in blocks that are protected. -/
def Kept (Q : List (Nat × Obj)) (A : Option Addr) (l : List UInt8) : Prop := ∀ V : World, (∀ p ∈ Q, V.heap[p.1]? = some p.2) → At V V.heap.size 1 A l.length (l.map u8v)
theorem NP.kept {P Q : List (Nat × Obj)} {w V : World} {g0 r0 : Nat} {L R : List Let} {A : Option Addr} {l : List UInt8} (h : NP P w g0 r0 L R V) (hk : Kept Q A l) (hQ : ∀ p ∈ Q, p ∈ P) : At V V.heap.size 1 A l.length (l.map u8v) :=
  hk V fun p hp => h.box (b := p.1) (o := p.2) (hQ p hp)
theorem kept_of {V : World} {gB o : Nat} {ob : Obj} {l : List UInt8} (hb : V.heap[gB]? = some ob) (hc : ∀ j, j < l.length → V.cell? ⟨gB, o + j, none⟩ = some (.int .u8 ((l.getD j 0).toNat : Int))) : Kept [(gB, ob)] (some ⟨gB, o, none⟩) l := fun V' h => by
  have h1 : V'.heap[gB]? = V.heap[gB]? := by rw [hb]; exact h (gB, ob) List.mem_cons_self
  have hf : Fr V' (fun g => g < V'.heap.size) (some ⟨gB, o, none⟩) l := fun hl => ⟨gB, o, rfl, lt_of_some (h1.trans hb), fun j hj => (World.cell?_of_block (a := ⟨gB, o + j, none⟩) h1).trans (hc j hj)⟩
  exact hf.at fun _ h => h
theorem take_np {P : List (Nat × Obj)} {w W : World} {g0 r0 : Nat} {L R : List Let} (h : NP P w g0 r0 L R W) (k : Nat) (hk : k < L.length) (hL : L.length ≤ 1000000) :
    Calls Try.prog 25 #[.pointer (some ⟨g0, 0, none⟩), .int .i64 (k : Int)] W fun e w' => ∃ A c Q, e = .returned (.tuple #[.agg #[.int .u64 (L[k].to : Int), .slice A L[k].fr.length c, .bool L[k].sp], .int .i64 0]) ∧ Kept Q A L[k].fr ∧ NP (Q ++ P) w g0 r0 (L.eraseIdx k) R w' := by
  have hr : r0 < W.heap.size := by obtain ⟨M, S, _, ⟨A, c, xs, h2⟩, _⟩ := h; exact h2.2.2.2.2.2.2.1
  obtain ⟨M, S, h1, h2, h3, h4, h5⟩ := h
  refine (take_in M g0 k L W h1 hk hL).mono fun e w' ⟨A, c, he, ⟨lo, hlo1, hlo2, ho, d1⟩, d2⟩ => ?_
  obtain ⟨Ar, cr, xr, h2⟩ := h2
  have s := h3.size
  have hS := h2.2.2.2.2.2.2.2
  have hlt := h1.lt
  have hN : ∀ Q : List (Nat × Obj), (∀ p ∈ Q, W.heap.size ≤ p.1 ∧ p.1 < lo ∧ w'.heap[p.1]? = some p.2) → NP (Q ++ P) w g0 r0 (L.eraseIdx k) R w' := fun Q hQ => by
    refine ⟨From M lo w', S, d1, ⟨Ar, cr, xr, h2.keep d2.size fun k hk => d2.block k ?_ fun hm => ?_⟩, h3.trans (d2.below (by omega) fun k hk => (h4 k hk).1), fun k hk => ?_, h5.1, fun p hp => ?_⟩
    · rcases hk with hk | rfl
      · exact hS k hk
      · exact hr
    · rcases hk with hk | rfl
      · exact (h4 k hm).2.1 hk
      · exact (h4 k hm).2.2 rfl
    · rcases hk with hk | hk
      · exact h4 k hk
      · exact ⟨by omega, fun h => by have := hS k h; omega, by omega⟩
    · rcases List.mem_append.1 hp with hp | hp
      · obtain ⟨p1, p2, p3⟩ := hQ p hp
        refine ⟨fun hm => ?_, by omega, p3⟩
        rcases hm with hm | hm
        · have := hlt _ hm; omega
        · omega
      · obtain ⟨p1, p2, p3⟩ := h5.2 p hp
        have hl := lt_of_some p3
        refine ⟨fun hm => ?_, p2, (d2.block _ hl p1).trans p3⟩
        rcases hm with hm | hm
        · exact p1 hm
        · omega
  by_cases hl : 0 < L[k].fr.length
  · obtain ⟨g, o, rfl, hg1, hg2, hc⟩ := ho hl
    obtain ⟨ob, hob⟩ : ∃ ob, w'.heap[g]? = some ob := ⟨_, Array.getElem?_eq_getElem (by omega)⟩
    refine ⟨some ⟨g, o, none⟩, c, [(g, ob)], he, kept_of hob hc, hN _ fun p hp => ?_⟩
    rw [List.mem_singleton] at hp
    subst hp
    exact ⟨hg1, hg2, hob⟩
  · refine ⟨A, c, [], he, fun V _ => ?_, hN [] fun p hp => by cases hp⟩
    rw [List.eq_nil_of_length_eq_zero (show L[k].fr.length = 0 by omega)]
    exact At.nil _ _ _ _
/-- A letter of the document's net: what is read of it. -/
theorem NP.row {P : List (Nat × Obj)} {w W : World} {g0 r0 : Nat} {L R : List Let} (h : NP P w g0 r0 L R W) {k : Nat} (hk : k < R.length) :
    ∃ b c B d Q, W.cell? ⟨r0, 0, none⟩ = some (.slice (some ⟨b, 0, none⟩) R.length c) ∧ (W.cell? ⟨b, k * 3, none⟩ = some (.int .u64 (R[k].to : Int)) ∧ W.cell? ⟨b, k * 3 + 1, none⟩ = some (.slice B R[k].fr.length d) ∧ W.cell? ⟨b, k * 3 + 2, none⟩ = some (.bool R[k].sp)) ∧ b < W.heap.size ∧ r0 < W.heap.size ∧ Kept Q B R[k].fr ∧ NP (Q ++ P) w g0 r0 L R W := by
  obtain ⟨M, S, h1, ⟨A, c, xs, h2⟩, h3, h4, h5⟩ := h
  obtain ⟨b, B, d, rfl, hSb, hbs, hbr, hc, -, -, -, -, hF⟩ := h2.row hk
  have hN : ∀ Q : List (Nat × Obj), (∀ p ∈ Q, S p.1 ∧ W.heap[p.1]? = some p.2) → NP (Q ++ P) w g0 r0 L R W := fun Q hQ => by
    refine ⟨M, S, h1, ⟨_, c, xs, h2⟩, h3, h4, h5.1, fun p hp => ?_⟩
    rcases List.mem_append.1 hp with hp | hp
    · obtain ⟨p1, p2⟩ := hQ p hp
      exact ⟨fun hm => (h4 _ hm).2.1 p1, fun e => h2.2.2.2.2.2.1 (e ▸ p1), p2⟩
    · exact h5.2 p hp
  by_cases hl : 0 < R[k].fr.length
  · obtain ⟨g, o, rfl, hg, hcs⟩ := hF hl
    obtain ⟨ob, hob⟩ : ∃ ob, W.heap[g]? = some ob := ⟨_, Array.getElem?_eq_getElem (h2.2.2.2.2.2.2.2 g hg)⟩
    refine ⟨b, c, some ⟨g, o, none⟩, d, [(g, ob)], h2.1, hc, hbs, h2.2.2.2.2.2.2.1, kept_of hob hcs, hN _ fun p hp => ?_⟩
    rw [List.mem_singleton] at hp
    subst hp
    exact ⟨hg, hob⟩
  · refine ⟨b, c, B, d, [], h2.1, hc, hbs, h2.2.2.2.2.2.2.1, fun V _ => ?_, hN [] fun p hp => by cases hp⟩
    rw [List.eq_nil_of_length_eq_zero (show R[k].fr.length = 0 by omega)]
    exact At.nil _ _ _ _
end Go.Proofs.Ytponmokiogdejaa
