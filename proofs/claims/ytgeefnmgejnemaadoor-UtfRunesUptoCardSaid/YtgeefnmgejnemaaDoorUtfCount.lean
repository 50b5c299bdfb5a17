import Derived.Test.YtgeefnmgejnemaaDoorUtfRunes
namespace Go.Proofs.YtgeefnmgejnemaaDoor
open Go.RowKit Go.Shelf Utf
open Go.Lib (validD decodeL decodeL_N decodeN decodeL_width)
set_option linter.unusedSimpArgs false
set_option linter.unusedVariables false
attribute [local go_sem] Oper.semAt_some

set_option maxRecDepth 100000 in
set_option maxHeartbeats 2000000 in
theorem count_in (s : List UInt8) (w : World) (hs : s.length ≤ 9223372036854775807) (hT : Tabs w) :
    CallsIn Fence.wide 5 Tryd.prog 14 #[.string (bs s)] w fun e w' => e = .returned (.int .i64 ((runesL s).length : Int)) ∧ Below w.heap.size w w' := by
  have hrl := runesL_length s
  refine callsIn_of_wp_marks Tryd.func14 rfl trivial ?_ rfl
  simp only [Tryd.ntmps14, List.size_toArray, List.length_cons, List.length_nil, Nat.reduceAdd, Nat.reduceSub, Array.replicate_succ, Array.replicate_zero, List.push_toArray, List.append_toArray, List.nil_append, List.cons_append]
  gi_wp2_with (refine ⟨trivial, ?_⟩; gi_at_call 13; refine (callsIn_wide.2 (runes_any _ _)).mono ?_; rintro e w2 ⟨rfl, rfl⟩)
  obtain ⟨W0, hW0⟩ : ∃ W0, (w.alloc (.cells #[.int .i64 0] 3)).alloc (.cells #[.string (bs s)] 9) = W0 := ⟨_, rfl⟩
  have hB0 : Below w.heap.size w W0 := by rw [← hW0]; exact ((Below.refl _ w).alloc (Nat.le_refl _) _).alloc (by simp) _
  have hz0 : W0.heap.size = w.heap.size + 2 := by rw [← hW0]; simp
  have hBs : W0.heap[w.heap.size + 1]? = some (.cells #[.string (bs s)] 9 (0, 0)) := by rw [← hW0]; exact heap_alloc2_new w _ _
  have hN : W0.heap[w.heap.size]? = some (.cells #[.int .i64 0] 3 (0, 0)) := by rw [← hW0]; exact heap_alloc2_old w _ _
  have hc0 : W0.cell? ⟨w.heap.size, 0, none⟩ = some (.int .i64 0) := by rw [cell_of_row _ _ 0 _ _ (0, 0) hN]; rfl
  have hf0 := frozen_of_row W0 w.heap.size 0 _ _ hN
  rw [hW0]
  clear hW0
  refine wpIn_rangeFunc_ownF (F := Fence.wide) rfl (by omega) (gf := 23) (lb := #[.pointer (some ⟨w.heap.size + 1, 0, none⟩)]) rfl trivial (enters_of Tryd.func23 (by kernel_rfl) rfl)
    (runes_stops 4 (by omega) (w.heap.size + 1) w.heap.size s hs W0 hB0.size hBs fun V hV => tabs_below hT (hB0.trans hV)) (fun h k => Kpt.t h k) (kpt_b (by omega) hB0.size) (Below.refl _ _) (fun _ => rfl)
    (fun pre W => (W.cell? ⟨w.heap.size, 0, none⟩ = some (.int .i64 (pre.length : Int)) ∧ W.frozen? ⟨w.heap.size, 0, none⟩ = false) ∧ Below w.heap.size w W)
    (fun _ _ _ => False)
    (OwnFrom.and (Own.from (fun st A B row hs hg hr => ⟨cell_kept hs.1 hg hr, (frozen_kept hs.1 hg hr).trans hs.2⟩) _) (ownFrom_below (Nat.le_refl _) (by omega)))
    (fun _ _ _ _ _ hs _ _ => hs)
    ⟨⟨hc0, hf0⟩, hB0⟩
    (fun x => { tmps := #[Value.string (bs s), undef, Value.int IntKind.i64 0, Value.pointer (some ⟨w.heap.size, 0, none⟩), Value.string (bs s),
          Value.func (Fn.func 23) #[] #[Value.pointer (some ⟨w.heap.size + 1, 0, none⟩)], .int .i64 (x.1 : Int), .int .i32 (x.2 : Int), undef, undef, undef], defers := [] }) ?assign ?body ?done ?stop
  case assign =>
    intro l x W K hK
    gi_wp2
    have h : ∀ t t' : Array Value, t = t' → K { tmps := t, defers := [] } W → K { tmps := t', defers := [] } W := fun _ _ h k => h ▸ k
    exact h _ _ (by first | rfl | simp) hK
  case body =>
    rintro l2 pre x W ⟨⟨hc, hf⟩, hB⟩ hlen
    have hsum : (pre.length : Int) + 1 ≤ 9223372036854775807 := by omega
    have hlen2 : (pre ++ [x]).length = pre.length + 1 := by simp
    gi_wp2
    refine ⟨KeepsOthers.setCell _ _ _, ⟨Below.heap_setCell _ _ _ _ (by show w.heap.size + 1 ≠ w.heap.size; omega), (Below.refl w.heap.size W).setCell (p := ⟨w.heap.size, 0, none⟩) (Nat.le_refl _) _⟩, ⟨?_, by rw [World.frozen?_setCell]; exact hf⟩, hB.setCell (p := ⟨w.heap.size, 0, none⟩) (Nat.le_refl _) _⟩
    rw [hlen2]
    exact World.cell?_setCell_same' _ _ _ (by rw [hc]; rfl)
  case done =>
    rintro D ys W hD rfl ⟨⟨hc, hf⟩, hB⟩ hK
    gi_wp2
    refine ⟨by simp, .inl ⟨_, _, rfl, run_takeDeferred hK, ?_⟩⟩
    exact ⟨_, results_tmp rfl _ _ _, rfl, hB.trans (belowK_b (w := w) (Nat.le_refl _) W D _ _ (by omega) hK rfl rfl)⟩
  case stop =>
    rintro D c pre W _ _ h _
    exact h.elim
theorem count_utf (s : List UInt8) (w : World) (hs : s.length ≤ 9223372036854775807) (hT : Tabs w) :
    Calls Tryd.prog 14 #[.string (bs s)] w fun e w' => e = .returned (.int .i64 ((runesL s).length : Int)) ∧ Below w.heap.size w w' := callsIn_wide.1 (count_in s w hs hT)

/-- Is one of the runes one that a quote escapes? -/
def oddIn (rs : List (Nat × Nat)) : Bool := rs.any fun x => odd x.2
theorem oddIn_snoc (rs : List (Nat × Nat)) (k r : Nat) : oddIn (rs ++ [(k, r)]) = (oddIn rs || odd r) := by simp [oddIn]
set_option maxRecDepth 100000 in
set_option maxHeartbeats 2000000 in
theorem strange_in (s : List UInt8) (w : World) (hs : s.length ≤ 9223372036854775807) (hT : Tabs w) :
    CallsIn Fence.wide 5 Tryd.prog 25 #[.string (bs s)] w fun e w' => e = .returned (.bool (strangeL s)) ∧ Below w.heap.size w w' := by
  refine callsIn_of_wp_marks Tryd.func25 rfl trivial ?_ rfl
  simp only [Tryd.ntmps25, List.size_toArray, List.length_cons, List.length_nil, Nat.reduceAdd, Nat.reduceSub, Array.replicate_succ, Array.replicate_zero, List.push_toArray, List.append_toArray, List.nil_append, List.cons_append]
  gi_wp2_with (refine ⟨trivial, ?_⟩; gi_at_call 13; refine (callsIn_wide.2 (runes_any _ _)).mono ?_; rintro e w2 ⟨rfl, rfl⟩)
  obtain ⟨W0, hW0⟩ : ∃ W0, (w.alloc (.cells #[.bool false] 4)).alloc (.cells #[.string (bs s)] 9) = W0 := ⟨_, rfl⟩
  have hB0 : Below w.heap.size w W0 := by rw [← hW0]; exact ((Below.refl _ w).alloc (Nat.le_refl _) _).alloc (by simp) _
  have hz0 : W0.heap.size = w.heap.size + 2 := by rw [← hW0]; simp
  have hBs : W0.heap[w.heap.size + 1]? = some (.cells #[.string (bs s)] 9 (0, 0)) := by rw [← hW0]; exact heap_alloc2_new w _ _
  have hN : W0.heap[w.heap.size]? = some (.cells #[.bool false] 4 (0, 0)) := by rw [← hW0]; exact heap_alloc2_old w _ _
  have hc0 : W0.cell? ⟨w.heap.size, 0, none⟩ = some (.bool false) := by rw [cell_of_row _ _ 0 _ _ (0, 0) hN]; rfl
  have hf0 := frozen_of_row W0 w.heap.size 0 _ _ hN
  rw [hW0]
  clear hW0
  refine wpIn_rangeFunc_ownF (F := Fence.wide) rfl (by omega) (gf := 23) (lb := #[.pointer (some ⟨w.heap.size + 1, 0, none⟩)]) rfl trivial (enters_of Tryd.func23 (by kernel_rfl) rfl)
    (runes_stops 4 (by omega) (w.heap.size + 1) w.heap.size s hs W0 hB0.size hBs fun V hV => tabs_below hT (hB0.trans hV)) (fun h k => Kpt.t h k) (kpt_b (by omega) hB0.size) (Below.refl _ _) (fun _ => rfl)
    (fun pre W => (W.cell? ⟨w.heap.size, 0, none⟩ = some (.bool false) ∧ W.frozen? ⟨w.heap.size, 0, none⟩ = false ∧ oddIn pre = false) ∧ Below w.heap.size w W)
    (fun c pre W => (W.cell? ⟨w.heap.size, 0, none⟩ = some (.bool true) ∧ c = .ret ∧ oddIn pre = true) ∧ Below w.heap.size w W)
    (OwnFrom.and (Own.from (fun st A B row hs hg hr => ⟨cell_kept hs.1 hg hr, (frozen_kept hs.1 hg hr).trans hs.2.1, hs.2.2⟩) _) (ownFrom_below (Nat.le_refl _) (by omega)))
    (fun c => OwnFrom.and (Own.from (fun st A B row hs hg hr => ⟨cell_kept hs.1 hg hr, hs.2⟩) _) (ownFrom_below (Nat.le_refl _) (by omega)))
    ⟨⟨hc0, hf0, rfl⟩, hB0⟩
    (fun x => { tmps := #[Value.string (bs s), undef, Value.pointer (some ⟨w.heap.size, 0, none⟩), undef, .int .i32 (x.2 : Int), Value.string (bs s),
          Value.func (Fn.func 23) #[] #[Value.pointer (some ⟨w.heap.size + 1, 0, none⟩)], .int .i64 (x.1 : Int), .int .i32 (x.2 : Int), undef, undef, undef, undef, undef, undef, undef, undef, undef, undef], defers := [] }) ?assign ?body ?done ?stop
  case assign =>
    intro l x W K hK
    gi_wp2
    exact hK
  case body =>
    rintro l2 pre x W ⟨⟨hc, hf, ha⟩, hB⟩ hlen
    obtain ⟨k, r⟩ := x
    have hany : ∀ b, odd r = b → oddIn (pre ++ [(k, r)]) = b := fun b hb => by rw [oddIn_snoc, ha]; exact hb
    by_cases h1 : r < 32
    · have H1 := Lib.hid (hany true (by simp [odd, h1]))
      clear hany ha
      have h1' : (r : Int) < 32 := by omega
      gi_wp2
      exact ⟨KeepsOthers.setCell _ _ _, ⟨World.cell?_setCell_same' _ _ _ (by rw [hc]; rfl), rfl, H1.out⟩, hB.setCell (p := ⟨w.heap.size, 0, none⟩) (Nat.le_refl _) _⟩
    · have h1' : ¬ (r : Int) < 32 := by omega
      by_cases h2 : r = 34
      · have H1 := Lib.hid (hany true (by simp [odd, h2]))
        subst h2
        clear hany ha
        gi_wp2
        exact ⟨KeepsOthers.setCell _ _ _, ⟨World.cell?_setCell_same' _ _ _ (by rw [hc]; rfl), rfl, H1.out⟩, hB.setCell (p := ⟨w.heap.size, 0, none⟩) (Nat.le_refl _) _⟩
      · have h2' : ((r : Int) == 34) = false := by rw [beq_eq_false_iff_ne]; omega
        by_cases h3 : r = 92
        · have H1 := Lib.hid (hany true (by simp [odd, h3]))
          subst h3
          clear hany ha
          gi_wp2
          exact ⟨KeepsOthers.setCell _ _ _, ⟨World.cell?_setCell_same' _ _ _ (by rw [hc]; rfl), rfl, H1.out⟩, hB.setCell (p := ⟨w.heap.size, 0, none⟩) (Nat.le_refl _) _⟩
        · have h3' : ((r : Int) == 92) = false := by rw [beq_eq_false_iff_ne]; omega
          have H1 := Lib.hid (hany false (by simp [odd, h1, h2, h3]))
          clear hany ha
          gi_wp2
          exact ⟨KeepsOthers.refl _, ⟨rfl, Below.refl _ _⟩, ⟨hc, hf, H1.out⟩, hB⟩
  case done =>
    rintro D ys W hD rfl ⟨⟨hc, hf, ha⟩, hB⟩ hK
    have HS : Hid (strangeL s = false) := ha
    clear ha
    gi_wp2
    have hK2 := (KeepsOthers.setCell W ⟨w.heap.size, 0, none⟩ (.bool false)).same D _ hK rfl
    have hc2 := cell_kept (World.cell?_setCell_same' W ⟨w.heap.size, 0, none⟩ (.bool false) (by rw [hc]; rfl)) (grownBy_putObj' _ D (.deferred none)) (fun r e => by cases e; exact ⟨_, hK2, rfl⟩)
    refine ⟨by simp, .inl ⟨_, _, rfl, run_takeDeferred hK2, ?_⟩⟩
    refine ⟨.bool false, by simp [results, Tryd.results25, go_sem, hc2], by rw [HS.out], ?_⟩
    exact (hB.setCell (p := ⟨w.heap.size, 0, none⟩) (Nat.le_refl _) _).trans (belowK_b (w := w) (Nat.le_refl _) _ D _ _ (by omega) hK2 rfl rfl)
  case stop =>
    rintro D c pre W hD hp ⟨⟨hc, rfl, ha⟩, hB⟩ hK
    have HS : Hid (strangeL s = true) := by
      obtain ⟨t, ht⟩ := hp
      unfold oddIn at ha
      show (runesL s).any _ = true
      rw [← ht, List.any_append, ha]; rfl
    clear ha hp
    gi_wp2
    have hc2 := cell_kept hc (grownBy_putObj' _ D (.deferred none)) (fun r e => by cases e; exact ⟨_, hK, rfl⟩)
    refine ⟨by simp, .inl ⟨_, _, rfl, run_takeDeferred hK, ?_⟩⟩
    refine ⟨.bool true, by simp [results, Tryd.results25, go_sem, hc2], by rw [HS.out], ?_⟩
    exact hB.trans (belowK_b (w := w) (Nat.le_refl _) _ D _ _ (by omega) hK rfl rfl)
theorem strange_utf (s : List UInt8) (w : World) (hs : s.length ≤ 9223372036854775807) (hT : Tabs w) :
    Calls Tryd.prog 25 #[.string (bs s)] w fun e w' => e = .returned (.bool (strangeL s)) ∧ Below w.heap.size w w' := callsIn_wide.1 (strange_in s w hs hT)
end Go.Proofs.YtgeefnmgejnemaaDoor
