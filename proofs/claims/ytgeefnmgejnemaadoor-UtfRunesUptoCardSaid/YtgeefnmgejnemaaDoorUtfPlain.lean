import Derived.Test.YtgeefnmgejnemaaDoorUtfCount
namespace Go.Proofs.YtgeefnmgejnemaaDoor
open Go.RowKit Go.Shelf Utf
open Go.Lib (validD decodeL decodeL_N decodeN decodeL_width)
set_option linter.unusedSimpArgs false
set_option linter.unusedVariables false
attribute [local go_sem] Oper.semAt_some

namespace Utf
set_option maxRecDepth 100000 in
theorem decodeN_len {n b0 b1 b2 b3 r k : Nat} (h0 : b0 < 256) (hd : decodeN n b0 b1 b2 b3 = (r, k)) (hb : (r, k) ≠ (65533, 1)) : Lib.runeLen (r : Int) = (k : Int) := by
  unfold decodeN at hd
  unfold Lib.runeLen
  split at hd
  · injection hd with e1 e2
    subst e1 e2
    rw [if_neg (by omega), if_pos (by omega)]; rfl
  split at hd
  · split at hd
    · injection hd with e1 e2
      subst e2
      rw [if_neg (by omega), if_neg (by omega), if_pos (by omega)]; rfl
    · exact absurd hd.symm hb
  split at hd
  · split at hd
    · injection hd with e1 e2
      subst e2
      rw [if_neg (by omega), if_neg (by omega), if_neg (by omega), if_neg (by omega), if_pos (by omega)]; rfl
    · exact absurd hd.symm hb
  split at hd
  · split at hd
    · injection hd with e1 e2
      subst e2
      rw [if_neg (by omega), if_neg (by omega), if_neg (by omega), if_neg (by omega), if_neg (by omega), if_pos (by omega)]; rfl
    · exact absurd hd.symm hb
  exact absurd hd.symm hb
theorem runeLen_at1 {l : List UInt8} (h : (at1 l).2 ≠ 0) : Lib.runeLen ((at1 l).1 : Int) = ((at1 l).2 : Int) := by
  by_cases hc : l = [] ∨ decodeL l = (65533, 1)
  · exact absurd (by unfold at1; rw [if_pos hc]) h
  have ha : at1 l = decodeL l := by unfold at1; rw [if_neg hc]
  have hb : decodeL l ≠ (65533, 1) := fun e => hc (.inr e)
  rw [ha]
  obtain ⟨r, k, hd⟩ : ∃ r k, decodeL l = (r, k) := ⟨_, _, rfl⟩
  rw [hd] at hb ⊢
  rw [decodeL_N] at hd
  exact decodeN_len (l.getD 0 0).toNat_lt hd hb
/-- The rune that bytes begin with, its width, and an error. -/
def plainL (l : List UInt8) : Nat × Nat × Nat := if (at1 l).2 = 0 then (0, 0, 3) else ((at1 l).1, (at1 l).2, 0)
theorem runesL_nil {l : List UInt8} (h : runesL l = []) : (at1 l).2 = 0 := by
  by_cases e : (at1 l).2 = 0
  · exact e
  · have : (at1 (l.drop 0)).2 ≠ 0 := by rw [List.drop_zero]; exact e
    unfold runesL at h
    rw [runesAt_some this] at h
    cases h
theorem runesL_one {l : List UInt8} {x : Nat × Nat} (h : [x] <+: runesL l) : x.2 = (at1 l).1 ∧ (at1 l).2 ≠ 0 := by
  obtain ⟨t, ht⟩ := h
  by_cases e : (at1 l).2 = 0
  · have : (at1 (l.drop 0)).2 = 0 := by rw [List.drop_zero]; exact e
    unfold runesL at ht
    rw [runesAt_none this] at ht
    cases ht
  · have : (at1 (l.drop 0)).2 ≠ 0 := by rw [List.drop_zero]; exact e
    unfold runesL at ht
    rw [runesAt_some this] at ht
    injection ht with ht
    rw [List.drop_zero] at ht
    rw [ht]
    exact ⟨rfl, e⟩
end Utf
/-- Three cells of results. -/
def Res3 (B : Nat) (r n e : Int) (W : World) : Prop := W.cell? ⟨B, 0, none⟩ = some (.int .i32 r) ∧ W.cell? ⟨B + 1, 0, none⟩ = some (.int .i64 n) ∧ W.cell? ⟨B + 1 + 1, 0, none⟩ = some (.int .i64 e)
def Fz3 (B : Nat) (W : World) : Prop := W.frozen? ⟨B, 0, none⟩ = false ∧ W.frozen? ⟨B + 1, 0, none⟩ = false ∧ W.frozen? ⟨B + 1 + 1, 0, none⟩ = false
theorem res3_set {B : Nat} {W : World} {r n e : Int} (h : Res3 B r n e W) (r' n' e' : Int) : Res3 B r' n' e' (((W.setCell ⟨B, 0, none⟩ (.int .i32 r')).setCell ⟨B + 1, 0, none⟩ (.int .i64 n')).setCell ⟨B + 1 + 1, 0, none⟩ (.int .i64 e')) := by
  obtain ⟨h1, h2, h3⟩ := h
  refine ⟨?_, ?_, ?_⟩
  · rw [World.cell?_setCell_other _ _ _ _ (by simp), World.cell?_setCell_other _ _ _ _ (by simp)]
    exact World.cell?_setCell_same' _ _ _ (by rw [h1]; rfl)
  · rw [World.cell?_setCell_other _ _ _ _ (by simp)]
    exact World.cell?_setCell_same' _ _ _ (by rw [World.cell?_setCell_other _ _ _ _ (by simp), h2]; rfl)
  · exact World.cell?_setCell_same' _ _ _ (by rw [World.cell?_setCell_other _ _ _ _ (by simp), World.cell?_setCell_other _ _ _ _ (by simp), h3]; rfl)
set_option maxRecDepth 100000 in
set_option maxHeartbeats 2000000 in
theorem plain_in (s : List UInt8) (w : World) (hs : s.length ≤ 9223372036854775807) (hT : Tabs w) :
    CallsIn Fence.wide 5 Tryd.prog 34 #[.string (bs s)] w fun e w' => e = .returned (.tuple #[.int .i32 ((plainL s).1 : Int), .int .i64 ((plainL s).2.1 : Int), .int .i64 ((plainL s).2.2 : Int)]) ∧ Below w.heap.size w w' := by
  refine callsIn_of_wp_marks Tryd.func34 rfl trivial ?_ rfl
  simp only [Tryd.ntmps34, List.size_toArray, List.length_cons, List.length_nil, Nat.reduceAdd, Nat.reduceSub, Array.replicate_succ, Array.replicate_zero, List.push_toArray, List.append_toArray, List.nil_append, List.cons_append]
  gi_wp2_with (refine ⟨trivial, ?_⟩; gi_at_call 13; refine (callsIn_wide.2 (runes_any _ _)).mono ?_; rintro e w2 ⟨rfl, rfl⟩)
  obtain ⟨W0, hW0⟩ : ∃ W0, (((w.alloc (.cells #[.int .i32 0] 21)).alloc (.cells #[.int .i64 0] 3)).alloc (.cells #[.int .i64 0] 32)).alloc (.cells #[.string (bs s)] 9) = W0 := ⟨_, rfl⟩
  have hB0 : Below w.heap.size w W0 := by rw [← hW0]; exact ((((Below.refl _ w).alloc (Nat.le_refl _) _).alloc (by simp) _).alloc (by simp; omega) _).alloc (by simp; omega) _
  have hz0 : W0.heap.size = w.heap.size + 4 := by rw [← hW0]; simp
  obtain ⟨V2, hV2⟩ : ∃ V2, (w.alloc (.cells #[.int .i32 0] 21)).alloc (.cells #[.int .i64 0] 3) = V2 := ⟨_, rfl⟩
  have z2 : V2.heap.size = w.heap.size + 2 := by rw [← hV2]; simp
  rw [hV2] at hW0
  have hBs : W0.heap[w.heap.size + 1 + 1 + 1]? = some (.cells #[.string (bs s)] 9 (0, 0)) := by
    have := heap_alloc2_new V2 (.cells #[.int .i64 0] 32) (.cells #[.string (bs s)] 9)
    rw [z2] at this
    rw [← hW0]; exact this
  have h2 : W0.heap[w.heap.size + 1 + 1]? = some (.cells #[.int .i64 0] 32 (0, 0)) := by
    have := heap_alloc2_old V2 (.cells #[.int .i64 0] 32) (.cells #[.string (bs s)] 9)
    rw [z2] at this
    rw [← hW0]; exact this
  have hlow : ∀ k, k < w.heap.size + 2 → W0.heap[k]? = V2.heap[k]? := fun k hk => by
    rw [← hW0, heap_alloc_old _ _ (by rw [World.size_alloc, z2]; omega), heap_alloc_old _ _ (by rw [z2]; omega)]
  have h0 : W0.heap[w.heap.size]? = some (.cells #[.int .i32 0] 21 (0, 0)) := by rw [hlow _ (by omega), ← hV2]; exact heap_alloc2_old w _ _
  have h1 : W0.heap[w.heap.size + 1]? = some (.cells #[.int .i64 0] 3 (0, 0)) := by rw [hlow _ (by omega), ← hV2]; exact heap_alloc2_new w _ _
  have hres : Res3 w.heap.size 0 0 0 W0 := ⟨by rw [cell_of_row _ _ 0 _ _ (0, 0) h0]; rfl, by rw [cell_of_row _ _ 0 _ _ (0, 0) h1]; rfl, by rw [cell_of_row _ _ 0 _ _ (0, 0) h2]; rfl⟩
  have hfz : Fz3 w.heap.size W0 := ⟨frozen_of_row _ _ 0 _ _ h0, frozen_of_row _ _ 0 _ _ h1, frozen_of_row _ _ 0 _ _ h2⟩
  rw [hV2, hW0]
  clear hW0 hV2 hlow h0 h1 h2
  refine wpIn_rangeFunc_ownF (F := Fence.wide) rfl (by omega) (gf := 23) (lb := #[.pointer (some ⟨w.heap.size + 1 + 1 + 1, 0, none⟩)]) rfl trivial (enters_of Tryd.func23 (by kernel_rfl) rfl)
    (runes_stops 4 (by omega) (w.heap.size + 1 + 1 + 1) w.heap.size s hs W0 hB0.size hBs fun V hV => tabs_below hT (hB0.trans hV)) (fun h k => Kpt.t h k) (kpt_b (by omega) hB0.size) (Below.refl _ _) (fun _ => rfl)
    (fun pre W => (pre = [] ∧ Res3 w.heap.size 0 0 0 W ∧ Fz3 w.heap.size W) ∧ Below w.heap.size w W)
    (fun c pre W => (c = .ret ∧ ∃ k r : Nat, pre = [(k, r)] ∧ Res3 w.heap.size (r : Int) (Lib.runeLen (r : Int)) 0 W) ∧ Below w.heap.size w W)
    (OwnFrom.and (Own.from (fun st A B row hs hg hr => ⟨hs.1, ⟨cell_kept hs.2.1.1 hg hr, cell_kept hs.2.1.2.1 hg hr, cell_kept hs.2.1.2.2 hg hr⟩, (frozen_kept hs.2.1.1 hg hr).trans hs.2.2.1, (frozen_kept hs.2.1.2.1 hg hr).trans hs.2.2.2.1, (frozen_kept hs.2.1.2.2 hg hr).trans hs.2.2.2.2⟩) _) (ownFrom_below (Nat.le_refl _) (by omega)))
    (fun c => OwnFrom.and (Own.from (fun st A B row hs hg hr => by
      obtain ⟨h1, k, r, h2, h3, h4, h5⟩ := hs
      exact ⟨h1, k, r, h2, cell_kept h3 hg hr, cell_kept h4 hg hr, cell_kept h5 hg hr⟩) _) (ownFrom_below (Nat.le_refl _) (by omega)))
    ⟨⟨rfl, hres, hfz⟩, hB0⟩
    (fun x => { tmps := #[Value.string (bs s), undef, Value.pointer (some ⟨w.heap.size, 0, none⟩), Value.pointer (some ⟨w.heap.size + 1, 0, none⟩), Value.pointer (some ⟨w.heap.size + 1 + 1, 0, none⟩), undef, .int .i32 (x.2 : Int), Value.string (bs s),
          Value.func (Fn.func 23) #[] #[Value.pointer (some ⟨w.heap.size + 1 + 1 + 1, 0, none⟩)], .int .i64 (x.1 : Int), .int .i32 (x.2 : Int), undef, undef, undef], defers := [] }) ?assign ?body ?done ?stop
  case assign =>
    intro l x W K hK
    gi_wp2
    exact hK
  case body =>
    rintro l2 pre ⟨k, r⟩ W ⟨⟨rfl, hr, hf⟩, hB⟩ _
    obtain ⟨r0, r1, r2⟩ := hr
    obtain ⟨f0, f1, f2⟩ := hf
    have HR : Hid (Res3 w.heap.size 0 0 0 W) := ⟨r0, r1, r2⟩
    gi_wp2_with (refine ⟨trivial, ?_⟩; gi_at_call 41; refine (CallsIn.inRound l2 (callsIn_wide.2 (Tryd.utf8_RuneLen (r : Int) _))).mono ?_; rintro e w' ⟨rfl, rfl⟩)
    have hle1 : w.heap.size ≤ w.heap.size + 1 := by omega
    have hle2 : w.heap.size ≤ w.heap.size + 1 + 1 := by omega
    exact ⟨((KeepsOthers.setCell _ _ _).trans (KeepsOthers.setCell _ _ _)).trans (KeepsOthers.setCell _ _ _), ⟨rfl, k, r, rfl, res3_set HR.out _ _ _⟩, ((hB.setCell (p := ⟨w.heap.size, 0, none⟩) (Nat.le_refl _) _).setCell (p := ⟨w.heap.size + 1, 0, none⟩) hle1 _).setCell (p := ⟨w.heap.size + 1 + 1, 0, none⟩) hle2 _⟩
  case done =>
    rintro D ys W hD hys ⟨⟨rfl, hr, hf⟩, hB⟩ hK
    have hp : plainL s = (0, 0, 3) := by unfold plainL; rw [if_pos (runesL_nil hys.symm)]
    have HP := Lib.hid hp
    clear hp
    have HR := Lib.hid hr
    obtain ⟨r0, r1, r2⟩ := hr
    obtain ⟨f0, f1, f2⟩ := hf
    have hle1 : w.heap.size ≤ w.heap.size + 1 := by omega
    have hle2 : w.heap.size ≤ w.heap.size + 1 + 1 := by omega
    gi_wp2
    have hK2 := (((KeepsOthers.setCell W ⟨w.heap.size, 0, none⟩ (.int .i32 0)).trans (KeepsOthers.setCell _ ⟨w.heap.size + 1, 0, none⟩ (.int .i64 0))).trans (KeepsOthers.setCell _ ⟨w.heap.size + 1 + 1, 0, none⟩ (.int .i64 3))).same D _ hK rfl
    obtain ⟨c0, c1, c2⟩ := res3_set HR.out 0 0 3
    have q0 := cell_kept c0 (grownBy_putObj' _ D (.deferred none)) (fun r e => by cases e; exact ⟨_, hK2, rfl⟩)
    have q1 := cell_kept c1 (grownBy_putObj' _ D (.deferred none)) (fun r e => by cases e; exact ⟨_, hK2, rfl⟩)
    have q2 := cell_kept c2 (grownBy_putObj' _ D (.deferred none)) (fun r e => by cases e; exact ⟨_, hK2, rfl⟩)
    refine ⟨by simp, .inl ⟨_, _, rfl, run_takeDeferred hK2, ?_⟩⟩
    refine ⟨.tuple #[.int .i32 0, .int .i64 0, .int .i64 3], by simp [results, Tryd.results34, go_sem, q0, q1, q2], by rw [HP.out]; rfl, ?_⟩
    exact (((hB.setCell (p := ⟨w.heap.size, 0, none⟩) (Nat.le_refl _) _).setCell (p := ⟨w.heap.size + 1, 0, none⟩) hle1 _).setCell (p := ⟨w.heap.size + 1 + 1, 0, none⟩) hle2 _).trans (belowK_b (w := w) (Nat.le_refl _) _ D _ _ (by omega) hK2 rfl rfl)
  case stop =>
    rintro D c pre W hD hp ⟨⟨rfl, k, r, rfl, c0, c1, c2⟩, hB⟩ hK
    obtain ⟨e1, e2⟩ := runesL_one hp
    have hpl : plainL s = (r, (at1 s).2, 0) := by unfold plainL; rw [if_neg e2, ← e1]
    have HP := Lib.hid hpl
    clear hpl
    rw [show r = (at1 s).1 from e1, runeLen_at1 e2] at c1
    gi_wp2
    have q0 := cell_kept c0 (grownBy_putObj' _ D (.deferred none)) (fun r e => by cases e; exact ⟨_, hK, rfl⟩)
    have q1 := cell_kept c1 (grownBy_putObj' _ D (.deferred none)) (fun r e => by cases e; exact ⟨_, hK, rfl⟩)
    have q2 := cell_kept c2 (grownBy_putObj' _ D (.deferred none)) (fun r e => by cases e; exact ⟨_, hK, rfl⟩)
    refine ⟨by simp, .inl ⟨_, _, rfl, run_takeDeferred hK, ?_⟩⟩
    refine ⟨.tuple #[.int .i32 (r : Int), .int .i64 ((at1 s).2 : Int), .int .i64 0], by simp [results, Tryd.results34, go_sem, q0, q1, q2], by rw [HP.out]; rfl, ?_⟩
    exact hB.trans (belowK_b (w := w) (Nat.le_refl _) _ D _ _ (by omega) hK rfl rfl)
theorem plain_utf (s : List UInt8) (w : World) (hs : s.length ≤ 9223372036854775807) (hT : Tabs w) :
    Calls Tryd.prog 34 #[.string (bs s)] w fun e w' => e = .returned (.tuple #[.int .i32 ((plainL s).1 : Int), .int .i64 ((plainL s).2.1 : Int), .int .i64 ((plainL s).2.2 : Int)]) ∧ Below w.heap.size w w' := callsIn_wide.1 (plain_in s w hs hT)
end Go.Proofs.YtgeefnmgejnemaaDoor
