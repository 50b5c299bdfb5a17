import Derived.Test.YtgeefnmgejnemaaDoorUtfKnown
import Derived.Test.YtgeefnmgejnemaaDoorUtfCount
import Derived.Test.YtgeefnmgejnemaaDoorUtfRunesR
namespace Go.Proofs.YtgeefnmgejnemaaDoor
open Go.RowKit Go.Shelf Utf
open Go.Lib (validD decodeL decodeL_N decodeN decodeL_width)
set_option linter.unusedSimpArgs false
set_option linter.unusedVariables false
attribute [local go_sem] Oper.semAt_some
theorem seq_nil (f : FuncId) (lb : Array Value) (W : World) : (binOp .eql 28 (.func (.func f) #[] lb) .nilFunc).run Tryd.prog W = .ok (.bool false) W := by
  have h : ∀ d : Nat, (Op.equalIn (d + 1) 28 (.func (.func f) #[] lb) .nilFunc).run Tryd.prog W = .ok false W := fun d => by
    simp [Op.equalIn, run_underlying Tryd.underlying28]
  simp only [binOp]
  simp [Op.equal, Op.maxDepth, h 9999]
def NormOnly (Q : Exit → Act → World → Prop) : Exit → Act → World → Prop
  | .normal, a, w => Q .normal a w
  | _, _, _ => False
theorem normOnly_of {Q : Exit → Act → World → Prop} : ∀ e a w, NormOnly Q e a w → Q e a w
  | .normal, _, _, h => h
theorem ownFrom_block {β : Type} {B D : Nat} {o : Obj} (hD : D < B) : OwnFrom B (fun (_ : β) V => V.heap[D]? = some o) := fun s W W' row hs hg hr =>
  (hg.block D (at_lt hs) (fun e => by have := (hr D e.symm).1; omega)).trans hs
def lidp (x : Nat × Nat) : Nat × Nat := (x.1, lid x.2)
theorem pre_snoc {α : Type} {l r : List α} (h : l <+: r) (hl : l.length < r.length) {y : α} : (l ++ [y] <+: r) ↔ r[l.length] = y := by
  obtain ⟨t, rfl⟩ := h
  cases t with
  | nil => simp at hl
  | cons z t =>
    have e : (l ++ z :: t)[l.length] = z := by simp
    rw [e]
    constructor
    · rintro ⟨u, hu⟩
      rw [List.append_assoc] at hu
      have := List.append_cancel_left hu
      simp at this
      exact this.1.symm
    · rintro rfl
      exact ⟨t, by simp⟩
theorem lidp_map {s : List UInt8} {pre : List (Nat × Nat)} (h : pre <+: runesL s) : pre.map lidp = pre := by
  have : ∀ x ∈ pre, lidp x = x := fun x hx => by
    have := runes_le (h.subset hx)
    unfold lidp
    rw [lid_self this]
  exact List.map_congr_left this |>.trans (List.map_id' pre)
/-- The world in which the law goes over the runes: its boxes. -/
structure RunesIn (s : List UInt8) (few : Int) (w w2 : World) (A1 A2 : Option Addr) (c1 c2 : Nat) (W : World) : Prop where
  few : W.cell? ⟨w.heap.size, 0, none⟩ = some (.int .i64 few)
  res : W.cell? ⟨w.heap.size + 1, 0, none⟩ = some (.bool false) ∧ W.frozen? ⟨w.heap.size + 1, 0, none⟩ = false
  l : W.cell? ⟨w2.heap.size, 0, none⟩ = some (.slice A1 (runesL s).length c1)
  at_ : W.cell? ⟨w2.heap.size + 1, 0, none⟩ = some (.slice A2 (runesL s).length c2)
  str : W.heap[w2.heap.size + 1 + 1]? = some (.cells #[.string (bs s)] 9 (0, 0))
  n : W.cell? ⟨w2.heap.size + 1 + 1 + 1, 0, none⟩ = some (.int .i64 0) ∧ W.frozen? ⟨w2.heap.size + 1 + 1 + 1, 0, none⟩ = false
  r1 : At W w2.heap.size 1 A1 (runesL s).length (runesV (runesL s))
  r2 : At W w2.heap.size 1 A2 (runesL s).length (placesV (runesL s))
  low : w.heap.size + 2 ≤ w2.heap.size
  belt : Below w.heap.size w W ∧ w2.heap.size + 1 + 1 + 1 < W.heap.size
theorem RunesIn.bel {s : List UInt8} {few : Int} {w w2 : World} {A1 A2 : Option Addr} {c1 c2 : Nat} {W : World} (h : RunesIn s few w w2 A1 A2 c1 c2 W) : Below w.heap.size w W := h.belt.1
theorem RunesIn.lt {s : List UInt8} {few : Int} {w w2 : World} {A1 A2 : Option Addr} {c1 c2 : Nat} {W : World} (h : RunesIn s few w w2 A1 A2 c1 c2 W) : w2.heap.size + 1 + 1 + 1 < W.heap.size := h.belt.2
set_option maxRecDepth 100000 in
set_option maxHeartbeats 4000000 in
theorem utfRunes_in (s : List UInt8) (few : Int) (w : World) (hs : s.length ≤ 1048576) (hT : Tabs w) :
    CallsIn Fence.wide 5 Tryd.prog 4 #[.string (bs s), .int .i64 few] w fun e w' => e = .returned (.bool true) ∧ Below w.heap.size w w' := by
  have HR : Hid (∀ V, CallsIn Fence.wide 4 Tryd.prog 12 #[.string (bs s)] V (RunesMade V (runesL s))) := fun V => callsIn_wide.2 (refRunes_any s V (by omega))
  have HT := Lib.hid hT
  clear hT
  have HN := seq_nil
  refine callsIn_of_wp_marks Tryd.func4 rfl trivial ?_ rfl
  simp only [Tryd.ntmps4, List.size_toArray, List.length_cons, List.length_nil, Nat.reduceAdd, Nat.reduceSub, Array.replicate_succ, Array.replicate_zero, List.push_toArray, List.append_toArray, List.nil_append, List.cons_append]
  gi_wp2_with (refine ⟨trivial, ?_⟩; gi_at_call 12; refine (HR.out _).mono ?_; rintro e w2 ⟨v1, v2, rfl, TR⟩; obtain ⟨A1, c1, rfl, n1, m1, h1⟩ := own_slice TR.runes; obtain ⟨A2, c2, rfl, n2, m2, h2⟩ := own_slice TR.places)
  gi_wp2_with (refine ⟨trivial, ?_⟩; gi_at_call 13; refine (callsIn_wide.2 (runes_any _ _)).mono ?_; rintro e w2 ⟨rfl, rfl⟩)
  obtain ⟨W3, hW3⟩ : ∃ W3, (((w2.alloc (.cells #[.slice A1 (runesL s).length c1] 24)).alloc (.cells #[.slice A2 (runesL s).length c2] 24)).alloc (.cells #[.string (bs s)] 9)).alloc (.cells #[.int .i64 0] 3) = W3 := ⟨_, rfl⟩
  have R0 : RunesIn s few w w2 A1 A2 c1 c2 W3 := by
    have hb := TR.bel
    have hsz := hb.size
    simp only [asz] at hsz
    have q0 : w2.heap[w.heap.size]? = some (.cells #[.int .i64 few] 3 (0, 0)) := (hb.block w.heap.size (by simp only [asz]; omega)).trans (heap_alloc2_old w _ _)
    have q1 : w2.heap[w.heap.size + 1]? = some (.cells #[.bool false] 4 (0, 0)) := (hb.block (w.heap.size + 1) (by simp only [asz]; omega)).trans (heap_alloc2_new w _ _)
    have low : Below w2.heap.size w2 W3 := by
      rw [← hW3]
      exact ((((Below.refl _ w2).alloc (Nat.le_refl _) _).alloc (by simp only [asz]; omega) _).alloc (by simp only [asz]; omega) _).alloc (by simp only [asz]; omega) _
    have g0 := (low.block w.heap.size (by omega)).trans q0
    have g1 := (low.block (w.heap.size + 1) (by omega)).trans q1
    have g5 : W3.heap[w2.heap.size + 1 + 1 + 1]? = some (.cells #[.int .i64 0] 3 (0, 0)) := by
      rw [← hW3]
      have := heap_alloc_new (((w2.alloc (.cells #[.slice A1 (runesL s).length c1] 24)).alloc (.cells #[.slice A2 (runesL s).length c2] 24)).alloc (.cells #[.string (bs s)] 9)) (.cells #[.int .i64 0] 3)
      simp only [asz] at this
      exact this
    have g4 : W3.heap[w2.heap.size + 1 + 1]? = some (.cells #[.string (bs s)] 9 (0, 0)) := by
      rw [← hW3, Lib.alloc_old _ _ _ (by simp only [asz]; omega)]
      have := heap_alloc_new ((w2.alloc (.cells #[.slice A1 (runesL s).length c1] 24)).alloc (.cells #[.slice A2 (runesL s).length c2] 24)) (.cells #[.string (bs s)] 9)
      simp only [asz] at this
      exact this
    have g3 : W3.heap[w2.heap.size + 1]? = some (.cells #[.slice A2 (runesL s).length c2] 24 (0, 0)) := by
      rw [← hW3, Lib.alloc_old _ _ _ (by simp only [asz]; omega), Lib.alloc_old _ _ _ (by simp only [asz]; omega)]
      exact heap_alloc2_new w2 _ _
    have g2 : W3.heap[w2.heap.size]? = some (.cells #[.slice A1 (runesL s).length c1] 24 (0, 0)) := by
      rw [← hW3, Lib.alloc_old _ _ _ (by simp only [asz]; omega), Lib.alloc_old _ _ _ (by simp only [asz]; omega)]
      exact heap_alloc2_old w2 _ _
    have hb0 : Below w.heap.size w w2 := (((Below.refl _ w).alloc (Nat.le_refl _) _).alloc (by simp) _).trans (hb.mono (by simp only [asz]; omega))
    have z3 : w2.heap.size + 1 + 1 + 1 < W3.heap.size := at_lt g5
    exact ⟨by rw [cell_of_row _ _ 0 _ _ (0, 0) g0]; rfl, ⟨by rw [cell_of_row _ _ 0 _ _ (0, 0) g1]; rfl, frozen_of_row _ _ 0 _ _ g1⟩, by rw [cell_of_row _ _ 0 _ _ (0, 0) g2]; rfl, by rw [cell_of_row _ _ 0 _ _ (0, 0) g3]; rfl, g4,
      ⟨by rw [cell_of_row _ _ 0 _ _ (0, 0) g5]; rfl, frozen_of_row _ _ 0 _ _ g5⟩, h1.below low (Nat.le_refl _), h2.below low (Nat.le_refl _), by omega, hb0.trans (low.mono hb0.size), z3⟩
  rw [hW3]
  clear hW3
  obtain ⟨Bn, hBn⟩ : ∃ Bn, Bn = w2.heap.size + 1 + 1 + 1 := ⟨_, rfl⟩
  rw [← hBn]
  refine wpIn_rangeFunc_ownF (F := Fence.wide) rfl (by omega) (gf := 23) (lb := #[.pointer (some ⟨w2.heap.size + 1 + 1, 0, none⟩)]) rfl trivial (enters_of Tryd.func23 (by kernel_rfl) rfl)
    (runes_stops 4 (by omega) (w2.heap.size + 1 + 1) Bn s (by omega) W3 (by rw [hBn]; exact Nat.le_of_lt R0.lt) R0.str fun V hV => tabs_below HT.out (R0.bel.trans (hV.mono (by have := R0.low; omega)))) (fun h k => Kpt.t h k) (kpt_b (by have := R0.lt; omega) (by rw [hBn]; exact Nat.le_of_lt R0.lt)) (Below.refl _ _) (fun _ => rfl)
    (fun pre W => (W.cell? ⟨Bn, 0, none⟩ = some (.int .i64 (pre.length : Int)) ∧ W.frozen? ⟨Bn, 0, none⟩ = false) ∧ Below Bn W3 W)
    (fun c _ W => ((∃ z : Int, W.cell? ⟨Bn, 0, none⟩ = some (.int .i64 z)) ∧ W.frozen? ⟨Bn, 0, none⟩ = false ∧ c = .exit 0) ∧ Below Bn W3 W)
    (OwnFrom.and (Own.from (fun st A B row hs hg hr => ⟨cell_kept hs.1 hg hr, (frozen_kept hs.1 hg hr).trans hs.2⟩) _) (ownFrom_below (by rw [hBn]; exact Nat.le_of_lt R0.lt) (by rw [hBn]; exact Nat.le_of_lt R0.lt)))
    (fun c => OwnFrom.and (Own.from (fun st A B row hs hg hr => by obtain ⟨⟨z, hz⟩, h2, h3⟩ := hs; exact ⟨⟨z, cell_kept hz hg hr⟩, (frozen_kept hz hg hr).trans h2, h3⟩) _) (ownFrom_below (by rw [hBn]; exact Nat.le_of_lt R0.lt) (by rw [hBn]; exact Nat.le_of_lt R0.lt)))
    ⟨by rw [hBn]; exact R0.n, Below.refl _ _⟩
    (fun x => { tmps := #[Value.string (bs s), Value.int IntKind.i64 few, undef,
          Value.pointer (some ⟨w.heap.size, 0, none⟩),
          Value.pointer (some ⟨w.heap.size + 1, 0, none⟩),
          Value.pointer (some ⟨w2.heap.size, 0, none⟩),
          Value.pointer (some ⟨w2.heap.size + 1, 0, none⟩),
          Value.func (Fn.func 23) #[] #[Value.pointer (some ⟨w2.heap.size + 1 + 1, 0, none⟩)],
          Value.pointer (some ⟨Bn, 0, none⟩), undef, undef,
          Value.tuple #[Value.slice A1 (runesL s).length c1, Value.slice A2 (runesL s).length c2], Value.string (bs s),
          Value.tuple #[Value.slice A1 (runesL s).length c1, Value.slice A2 (runesL s).length c2],
          Value.slice A1 (runesL s).length c1, Value.slice A2 (runesL s).length c2, Value.string (bs s),
          Value.func (Fn.func 23) #[] #[Value.pointer (some ⟨w2.heap.size + 1 + 1, 0, none⟩)],
          Value.func (Fn.func 23) #[] #[Value.pointer (some ⟨w2.heap.size + 1 + 1, 0, none⟩)],
          Value.bool false,
          Value.func (Fn.func 23) #[] #[Value.pointer (some ⟨w2.heap.size + 1 + 1, 0, none⟩)], .int .i64 (x.1 : Int), .int .i32 (x.2 : Int),
          undef, undef, undef, undef, undef, undef, undef, undef, undef, undef, undef, undef, undef, undef, undef, undef, undef, undef, undef, undef, undef, undef, undef, undef, undef, undef, undef, undef, undef, undef, undef, undef, undef, undef, undef, undef, undef, undef, undef, undef, undef, undef, undef, undef, undef], defers := [] }) ?assign ?body ?done ?stop
  case assign =>
    intro l x W K hK
    clear hBn
    gi_wp2
    exact hK
  case body =>
    rintro l2 pre x W ⟨⟨hc, hf⟩, hB⟩ hlen
    have hfew := (hB.cell (p := ⟨w.heap.size, 0, none⟩) (by show w.heap.size < Bn; have := R0.low; omega)).trans R0.few
    have hrl := runesL_length s
    have hsum : (pre.length : Int) + 1 ≤ 9223372036854775807 := by omega
    have hlen2 : (pre ++ [x]).length = pre.length + 1 := by simp
    have HBn := Lib.hid hBn
    clear hBn
    by_cases he : (pre.length : Int) = few
    · have he' : ((pre.length : Int) == few) = true := by rw [he, beq_self_eq_true]
      clear he
      gi_wp2
      exact ⟨KeepsOthers.refl _, ⟨⟨_, hc⟩, hf, rfl⟩, hB⟩
    · have he' : ((pre.length : Int) == few) = false := by rw [beq_eq_false_iff_ne]; exact he
      clear he
      gi_wp2
      refine ⟨KeepsOthers.setCell _ _ _, ⟨Below.heap_setCell _ _ _ _ (by show _ ≠ Bn; rw [HBn.out]; omega), (Below.refl Bn W).setCell (p := ⟨Bn, 0, none⟩) (Nat.le_refl _) _⟩, ⟨?_, by rw [World.frozen?_setCell]; exact hf⟩, hB.setCell (p := ⟨Bn, 0, none⟩) (Nat.le_refl _) _⟩
      rw [hlen2]
      exact World.cell?_setCell_same' _ _ _ (by rw [hc]; rfl)
  case done =>
    rintro D ys W hD rfl ⟨⟨hc, hf⟩, hB⟩ hK
    have HBn := Lib.hid hBn
    clear hBn
    gi_wp2
    obtain ⟨W4, hW4⟩ : ∃ W4, W.setCell ⟨Bn, 0, none⟩ (.int .i64 0) = W4 := ⟨_, rfl⟩
    have c4 : W4.cell? ⟨Bn, 0, none⟩ = some (.int .i64 0) := by rw [← hW4]; exact World.cell?_setCell_same' _ _ _ (by rw [hc]; rfl)
    have f4 : W4.frozen? ⟨Bn, 0, none⟩ = false := by rw [← hW4, World.frozen?_setCell]; exact hf
    have B4 : Below Bn W3 W4 := by rw [← hW4]; exact hB.setCell (p := ⟨Bn, 0, none⟩) (Nat.le_refl _) _
    have lt3 := R0.lt
    rw [← HBn.out] at lt3
    have K4 : W4.heap[D]? = some (.deferred (some [])) := by rw [← hW4]; exact (Below.heap_setCell _ _ _ _ (by show D ≠ Bn; omega)).trans hK
    have lt4 : Bn < W4.heap.size := by have := B4.size; omega
    have s4 : W4.heap[w2.heap.size + 1 + 1]? = some (.cells #[.string (bs s)] 9 (0, 0)) := (B4.block _ (by rw [HBn.out]; omega)).trans R0.str
    have T4 : Below w.heap.size w W4 := R0.bel.trans (B4.mono (by rw [HBn.out]; have := R0.low; omega))
    have bx : ∀ V, Below Bn W4 V → V.cell? ⟨w2.heap.size, 0, none⟩ = some (.slice A1 (runesL s).length c1) ∧ V.cell? ⟨w2.heap.size + 1, 0, none⟩ = some (.slice A2 (runesL s).length c2) ∧ At V w2.heap.size 1 A1 (runesL s).length (runesV (runesL s)) ∧ At V w2.heap.size 1 A2 (runesL s).length (placesV (runesL s)) ∧ V.cell? ⟨w.heap.size + 1, 0, none⟩ = some (.bool false) ∧ V.frozen? ⟨w.heap.size + 1, 0, none⟩ = false := fun V hV => by
      have h := B4.trans hV
      have e := HBn.out
      exact ⟨(h.cell (p := ⟨w2.heap.size, 0, none⟩) (by show w2.heap.size < Bn; omega)).trans R0.l, (h.cell (p := ⟨w2.heap.size + 1, 0, none⟩) (by show w2.heap.size + 1 < Bn; omega)).trans R0.at_, R0.r1.below h (by omega), R0.r2.below h (by omega), (h.cell (p := ⟨w.heap.size + 1, 0, none⟩) (by show w.heap.size + 1 < Bn; have := R0.low; omega)).trans R0.res.1, (h.frozen (p := ⟨w.heap.size + 1, 0, none⟩) (by show w.heap.size + 1 < Bn; have := R0.low; omega)).trans R0.res.2⟩
    have BX := Lib.hid bx
    have hrl := runesL_length s
    rw [hW4]
    clear hW4 bx hc hf hB hK
    refine wpIn_rangeFunc_ownF (F := Fence.wide) rfl (by omega) (gf := 23) (lb := #[.pointer (some ⟨w2.heap.size + 1 + 1, 0, none⟩)]) rfl trivial (enters_of Tryd.func23 (by kernel_rfl) rfl)
      (runes_stops_lid 4 (by omega) (w2.heap.size + 1 + 1) Bn s (by omega) W4 (by omega) s4 fun V hV => tabs_below HT.out (T4.trans (hV.mono (by rw [HBn.out]; have := R0.low; omega)))) (fun h k => Kpt.t h k) (kpt_b (by have := HBn.out; omega) (by omega)) (Below.refl _ _) (fun _ => rfl)
      (fun pre V => ((V.cell? ⟨Bn, 0, none⟩ = some (.int .i64 (pre.length : Int)) ∧ V.frozen? ⟨Bn, 0, none⟩ = false ∧ pre.map lidp <+: runesL s) ∧ Below Bn W4 V) ∧ V.heap[D]? = some (.deferred (some [])))
      (fun c pre V => c = .ret ∧ ¬ (pre.map lidp <+: runesL s))
      (OwnFrom.and (OwnFrom.and (Own.from (fun st A B row hs hg hr => ⟨cell_kept hs.1 hg hr, (frozen_kept hs.1 hg hr).trans hs.2.1, hs.2.2⟩) _) (ownFrom_below (by omega) (by omega))) (ownFrom_block (at_lt K4)))
      (fun c => Own.from (fun st A B row hs hg hr => hs) _)
      ⟨⟨⟨c4, f4, List.nil_prefix⟩, Below.refl _ _⟩, K4⟩
      (fun x => { tmps := #[Value.string (bs s), Value.int IntKind.i64 few, undef,
          Value.pointer (some ⟨w.heap.size, 0, none⟩),
          Value.pointer (some ⟨w.heap.size + 1, 0, none⟩),
          Value.pointer (some ⟨w2.heap.size, 0, none⟩),
          Value.pointer (some ⟨w2.heap.size + 1, 0, none⟩),
          Value.func (Fn.func 23) #[] #[Value.pointer (some ⟨w2.heap.size + 1 + 1, 0, none⟩)], Value.pointer (some ⟨Bn, 0, none⟩), .int .i64 (x.1 : Int), .int .i32 (lid x.2 : Int),
          Value.tuple #[Value.slice A1 (runesL s).length c1, Value.slice A2 (runesL s).length c2], Value.string (bs s),
          Value.tuple #[Value.slice A1 (runesL s).length c1, Value.slice A2 (runesL s).length c2],
          Value.slice A1 (runesL s).length c1, Value.slice A2 (runesL s).length c2, Value.string (bs s),
          Value.func (Fn.func 23) #[] #[Value.pointer (some ⟨w2.heap.size + 1 + 1, 0, none⟩)], Value.func (Fn.func 23) #[] #[Value.pointer (some ⟨w2.heap.size + 1 + 1, 0, none⟩)], Value.bool false, Value.func (Fn.func 23) #[] #[Value.pointer (some ⟨w2.heap.size + 1 + 1, 0, none⟩)], undef, undef, undef, undef, undef, undef, undef, Value.func (Fn.func 23) #[] #[Value.pointer (some ⟨w2.heap.size + 1 + 1, 0, none⟩)], .int .i64 (x.1 : Int), .int .i32 (lid x.2 : Int), undef, undef, undef, undef, undef, undef, undef, undef, undef, undef, undef, undef, undef, undef, undef, undef, undef, undef, undef, undef, undef, undef, undef, undef, undef, undef, undef, undef, undef, undef, undef, undef, undef, undef, undef, undef, undef], defers := [] }) ?assign2 ?body2 ?done2 ?stop2
    case assign2 =>
      intro l x V K hK
      clear c4 f4 s4 lt3 lt4
      gi_wp2
      exact hK
    case body2 =>
      rintro l2 pre x V ⟨⟨⟨hc, hf, hp⟩, hB⟩, hKD⟩ hlen
      have hDB : D ≠ Bn := by omega
      obtain ⟨x1, x2, x3, x4, x5, x6⟩ := BX.out V hB
      obtain ⟨b1, o1, u1, rfl, _, hu1, hc1⟩ := x3.at1 hlen
      obtain ⟨b2, o2, u2, rfl, _, hu2, hc2⟩ := x4.at1 hlen
      obtain ⟨p, q, hpq⟩ : ∃ p q, (runesL s)[pre.length] = (p, q) := ⟨_, _, rfl⟩
      have e1 : (runesV (runesL s))[pre.length]? = some (.int .i64 (q : Int)) := by simp [runesV, hlen, hpq]
      have e2 : (placesV (runesL s))[pre.length]? = some (.int .i64 (p : Int)) := by simp [placesV, hlen, hpq]
      rw [e1] at hu1
      rw [e2] at hu2
      injection hu1 with hu1
      injection hu2 with hu2
      subst hu1 hu2
      obtain ⟨xk, xr⟩ := x
      have hlm : (pre.map lidp).length = pre.length := List.length_map _
      have hsn : (pre.map lidp ++ [(xk, lid xr)] <+: runesL s) ↔ (p, q) = (xk, lid xr) := by
        have := pre_snoc hp (y := (xk, lid xr)) (by rw [hlm]; exact hlen)
        rw [this]
        simp only [hlm, hpq]
      have hmp : (pre ++ [(xk, xr)]).map lidp = pre.map lidp ++ [(xk, lid xr)] := by simp [lidp]
      have hy := lid_le xr
      have HS := Lib.hid hsn
      have HM := Lib.hid hmp
      have hlen2 : (pre ++ [(xk, xr)]).length = pre.length + 1 := by simp
      have HL2 := Lib.hid hlen2
      have n1 : decide ((runesL s).length ≤ pre.length) = false := by rw [decide_eq_false_iff_not]; omega
      have hsum : (pre.length : Int) + 1 ≤ 9223372036854775807 := by omega
      have hl3 : (pre.length : Int) < ((runesL s).length : Int) := by omega
      clear hsn hmp hpq e1 e2 hlm x3 x4 hlen2 c4 f4 s4 lt3
      generalize lid xr = y at *
      by_cases hk : xk = p
      · subst hk
        have k1 : ((xk : Int) != (xk : Int)) = false := by simp
        by_cases hr : y = q
        · subst hr
          have k2 : ((y : Int) != (y : Int)) = false := by simp
          gi_wp2
          refine ⟨KeepsOthers.setCell _ _ _, ⟨Below.heap_setCell _ _ _ _ (by show _ ≠ Bn; rw [HBn.out]; omega), (Below.refl Bn V).setCell (p := ⟨Bn, 0, none⟩) (Nat.le_refl _) _⟩, ⟨⟨?_, by rw [World.frozen?_setCell]; exact hf, by rw [HM.out]; first | exact HS.out.2 trivial | exact HS.out.2 rfl⟩, hB.setCell (p := ⟨Bn, 0, none⟩) (Nat.le_refl _) _⟩, (Below.heap_setCell _ _ _ _ hDB).trans hKD⟩
          rw [HL2.out]
          exact World.cell?_setCell_same' _ _ _ (by rw [hc]; rfl)
        · have k2 : ((y : Int) != (q : Int)) = true := by rw [bne_iff_ne]; omega
          have HNN : Hid (¬ ((pre ++ [(xk, xr)]).map lidp <+: runesL s)) := fun h => by rw [HM.out] at h; have := HS.out.1 h; injection this with _ h2; exact hr h2.symm
          clear HS HM
          gi_wp2
          exact ⟨KeepsOthers.setCell _ _ _, rfl, HNN.out⟩
      · have k1 : ((xk : Int) != (p : Int)) = true := by rw [bne_iff_ne]; omega
        have HNN : Hid (¬ ((pre ++ [(xk, xr)]).map lidp <+: runesL s)) := fun h => by rw [HM.out] at h; have := HS.out.1 h; injection this with h2 _; exact hk h2.symm
        clear HS HM
        gi_wp2
        exact ⟨KeepsOthers.setCell _ _ _, rfl, HNN.out⟩
    case done2 =>
      rintro D2 ys V hD2 rfl ⟨⟨⟨hc, hf, hp⟩, hB⟩, hKD⟩ hK2
      have hDr : w.heap.size + 1 < D := by have := R0.low; have := HBn.out; omega
      have hDD : D < D2 := by have := at_lt K4; omega
      obtain ⟨x1, x2, x3, x4, x5, x6⟩ := BX.out V hB
      clear x2 x3 x4 c4 f4 s4 lt3
      have HC := Lib.hid (fun U (hU : Tabs U) => (callsIn_wide.2 (count_utf s U (by omega) hU) : CallsIn Fence.wide 4 Tryd.prog _ _ _ _))
      have HK := Lib.hid (fun U (hU : Tabs U) => (callsIn_wide.2 (known_any U hU) : CallsIn Fence.wide 4 Tryd.prog _ _ _ _))
      have TV := Lib.hid (T4.trans (hB.mono (by rw [HBn.out]; have := R0.low; omega)))
      have hlow := R0.low
      have hvs : w2.heap.size + 1 + 1 + 1 < V.heap.size := by have := hB.size; have := HBn.out; omega
      gi_wp2
      have HTT := Lib.hid (fun U (hU : Below V.heap.size V U) => tabs_below HT.out (TV.out.trans (hU.mono TV.out.size)))
      have hmix : Tryd.prog.follows .mixedOrders = true := by kernel_rfl
      refine wpIn_mono (Q := NormOnly _) ?_ normOnly_of
      gi_region_with (first
        | (refine ⟨trivial, ?_⟩; gi_at_call 14; refine (HC.out _ (HTT.out _ (Below.refl _ V).drew)).mono ?_; rintro e w5 ⟨rfl, b5⟩; have y1 : w5.cell? ⟨w2.heap.size, 0, none⟩ = some (.slice A1 (runesL s).length c1) := (b5.cell (p := ⟨w2.heap.size, 0, none⟩) (by show w2.heap.size < V.heap.size; omega)).trans x1)
        | (refine ⟨trivial, ?_⟩; gi_at_call 11; refine (HK.out _ (HTT.out _ ((Below.refl _ V).drew.trans b5))).mono ?_; rintro e w6 ⟨rfl, b6⟩; have y5 : w6.cell? ⟨w.heap.size + 1, 0, none⟩ = some (.bool false) := ((b6.cell (p := ⟨w.heap.size + 1, 0, none⟩) (by have := b5.size; show w.heap.size + 1 < w5.heap.size; have e : V.drew.heap.size = V.heap.size := rfl; omega)).trans (b5.cell (p := ⟨w.heap.size + 1, 0, none⟩) (by show w.heap.size + 1 < V.heap.size; omega))).trans x5; have y6 : w6.frozen? ⟨w.heap.size + 1, 0, none⟩ = false := ((b6.frozen (p := ⟨w.heap.size + 1, 0, none⟩) (by have := b5.size; show w.heap.size + 1 < w5.heap.size; have e : V.drew.heap.size = V.heap.size := rfl; omega)).trans (b5.frozen (p := ⟨w.heap.size + 1, 0, none⟩) (by show w.heap.size + 1 < V.heap.size; omega))).trans x6))
      all_goals
        unfold NormOnly
        have z5 : V.heap.size ≤ w5.heap.size := b5.size
        have bV : Below V.heap.size V w6 := ((Below.refl _ V).drew.trans b5).trans (b6.mono z5)
        have kA : (w6.setCell ⟨w.heap.size + 1, 0, none⟩ (.bool true)).heap[D2]? = some (.deferred (some [])) := (Below.heap_setCell _ _ _ _ (by show D2 ≠ w.heap.size + 1; omega)).trans ((bV.block D2 (at_lt hK2)).trans hK2)
        have kB0 : (w6.setCell ⟨w.heap.size + 1, 0, none⟩ (.bool true)).heap[D]? = some (.deferred (some [])) := (Below.heap_setCell _ _ _ _ (by show D ≠ w.heap.size + 1; omega)).trans ((bV.block D (at_lt hKD)).trans hKD)
        have kB : ((w6.setCell ⟨w.heap.size + 1, 0, none⟩ (.bool true)).putObj D2 (.deferred none)).heap[D]? = some (.deferred (some [])) := ((grownBy_putObj' _ D2 _).block D (at_lt kB0) (by intro e; injection e; omega)).trans kB0
        have cA := cell_kept (World.cell?_setCell_same' w6 ⟨w.heap.size + 1, 0, none⟩ (.bool true) (by rw [y5]; rfl)) (grownBy_putObj' _ D2 (.deferred none)) (fun r e => by cases e; exact ⟨_, kA, rfl⟩)
        have cB := cell_kept cA (grownBy_putObj' _ D (.deferred none)) (fun r e => by cases e; exact ⟨_, kB, rfl⟩)
        have bF : Below w.heap.size w (w6.setCell ⟨w.heap.size + 1, 0, none⟩ (.bool true)) := (TV.out.trans (bV.mono TV.out.size)).setCell (p := ⟨w.heap.size + 1, 0, none⟩) (by show w.heap.size ≤ w.heap.size + 1; omega) _
        have bG := bF.trans (belowK_b (w := w) (Nat.le_refl _) _ D2 _ (.deferred none) (by omega) kA rfl rfl)
        have bH := bG.trans (belowK_b (w := w) (Nat.le_refl _) _ D _ (.deferred none) (by omega) kB rfl rfl)
        clear y5 y6 x1 x5 x6 hc hf
        gi_wp2
        refine ⟨by simp, .inl ⟨_, _, rfl, run_takeDeferred kA, ?_⟩⟩
        refine ⟨by simp, .inl ⟨_, _, rfl, run_takeDeferred kB, ?_⟩⟩
        refine ⟨.bool true, by simp [results, Tryd.results4, go_sem, cB], rfl, bH⟩
    case stop2 =>
      rintro D2 c pre V hD2 hp ⟨rfl, hn⟩ hK2
      exact absurd (by rw [lidp_map hp]; exact hp) hn
  case stop =>
    rintro D c pre W hD _ ⟨⟨⟨z, hc⟩, hf, rfl⟩, hB⟩ hK
    have HBn := Lib.hid hBn
    clear hBn
    gi_wp2
    obtain ⟨W4, hW4⟩ : ∃ W4, W.setCell ⟨Bn, 0, none⟩ (.int .i64 0) = W4 := ⟨_, rfl⟩
    have c4 : W4.cell? ⟨Bn, 0, none⟩ = some (.int .i64 0) := by rw [← hW4]; exact World.cell?_setCell_same' _ _ _ (by rw [hc]; rfl)
    have f4 : W4.frozen? ⟨Bn, 0, none⟩ = false := by rw [← hW4, World.frozen?_setCell]; exact hf
    have B4 : Below Bn W3 W4 := by rw [← hW4]; exact hB.setCell (p := ⟨Bn, 0, none⟩) (Nat.le_refl _) _
    have lt3 := R0.lt
    rw [← HBn.out] at lt3
    have K4 : W4.heap[D]? = some (.deferred (some [])) := by rw [← hW4]; exact (Below.heap_setCell _ _ _ _ (by show D ≠ Bn; omega)).trans hK
    have lt4 : Bn < W4.heap.size := by have := B4.size; omega
    have s4 : W4.heap[w2.heap.size + 1 + 1]? = some (.cells #[.string (bs s)] 9 (0, 0)) := (B4.block _ (by rw [HBn.out]; omega)).trans R0.str
    have T4 : Below w.heap.size w W4 := R0.bel.trans (B4.mono (by rw [HBn.out]; have := R0.low; omega))
    have bx : ∀ V, Below Bn W4 V → V.cell? ⟨w2.heap.size, 0, none⟩ = some (.slice A1 (runesL s).length c1) ∧ V.cell? ⟨w2.heap.size + 1, 0, none⟩ = some (.slice A2 (runesL s).length c2) ∧ At V w2.heap.size 1 A1 (runesL s).length (runesV (runesL s)) ∧ At V w2.heap.size 1 A2 (runesL s).length (placesV (runesL s)) ∧ V.cell? ⟨w.heap.size + 1, 0, none⟩ = some (.bool false) ∧ V.frozen? ⟨w.heap.size + 1, 0, none⟩ = false := fun V hV => by
      have h := B4.trans hV
      have e := HBn.out
      exact ⟨(h.cell (p := ⟨w2.heap.size, 0, none⟩) (by show w2.heap.size < Bn; omega)).trans R0.l, (h.cell (p := ⟨w2.heap.size + 1, 0, none⟩) (by show w2.heap.size + 1 < Bn; omega)).trans R0.at_, R0.r1.below h (by omega), R0.r2.below h (by omega), (h.cell (p := ⟨w.heap.size + 1, 0, none⟩) (by show w.heap.size + 1 < Bn; have := R0.low; omega)).trans R0.res.1, (h.frozen (p := ⟨w.heap.size + 1, 0, none⟩) (by show w.heap.size + 1 < Bn; have := R0.low; omega)).trans R0.res.2⟩
    have BX := Lib.hid bx
    have hrl := runesL_length s
    rw [hW4]
    clear hW4 bx hc hf hB hK
    refine wpIn_rangeFunc_ownF (F := Fence.wide) rfl (by omega) (gf := 23) (lb := #[.pointer (some ⟨w2.heap.size + 1 + 1, 0, none⟩)]) rfl trivial (enters_of Tryd.func23 (by kernel_rfl) rfl)
      (runes_stops_lid 4 (by omega) (w2.heap.size + 1 + 1) Bn s (by omega) W4 (by omega) s4 fun V hV => tabs_below HT.out (T4.trans (hV.mono (by rw [HBn.out]; have := R0.low; omega)))) (fun h k => Kpt.t h k) (kpt_b (by have := HBn.out; omega) (by omega)) (Below.refl _ _) (fun _ => rfl)
      (fun pre V => ((V.cell? ⟨Bn, 0, none⟩ = some (.int .i64 (pre.length : Int)) ∧ V.frozen? ⟨Bn, 0, none⟩ = false ∧ pre.map lidp <+: runesL s) ∧ Below Bn W4 V) ∧ V.heap[D]? = some (.deferred (some [])))
      (fun c pre V => c = .ret ∧ ¬ (pre.map lidp <+: runesL s))
      (OwnFrom.and (OwnFrom.and (Own.from (fun st A B row hs hg hr => ⟨cell_kept hs.1 hg hr, (frozen_kept hs.1 hg hr).trans hs.2.1, hs.2.2⟩) _) (ownFrom_below (by omega) (by omega))) (ownFrom_block (at_lt K4)))
      (fun c => Own.from (fun st A B row hs hg hr => hs) _)
      ⟨⟨⟨c4, f4, List.nil_prefix⟩, Below.refl _ _⟩, K4⟩
      (fun x => { tmps := #[Value.string (bs s), Value.int IntKind.i64 few, undef,
          Value.pointer (some ⟨w.heap.size, 0, none⟩),
          Value.pointer (some ⟨w.heap.size + 1, 0, none⟩),
          Value.pointer (some ⟨w2.heap.size, 0, none⟩),
          Value.pointer (some ⟨w2.heap.size + 1, 0, none⟩),
          Value.func (Fn.func 23) #[] #[Value.pointer (some ⟨w2.heap.size + 1 + 1, 0, none⟩)], Value.pointer (some ⟨Bn, 0, none⟩), .int .i64 (x.1 : Int), .int .i32 (lid x.2 : Int),
          Value.tuple #[Value.slice A1 (runesL s).length c1, Value.slice A2 (runesL s).length c2], Value.string (bs s),
          Value.tuple #[Value.slice A1 (runesL s).length c1, Value.slice A2 (runesL s).length c2],
          Value.slice A1 (runesL s).length c1, Value.slice A2 (runesL s).length c2, Value.string (bs s),
          Value.func (Fn.func 23) #[] #[Value.pointer (some ⟨w2.heap.size + 1 + 1, 0, none⟩)], Value.func (Fn.func 23) #[] #[Value.pointer (some ⟨w2.heap.size + 1 + 1, 0, none⟩)], Value.bool false, Value.func (Fn.func 23) #[] #[Value.pointer (some ⟨w2.heap.size + 1 + 1, 0, none⟩)], undef, undef, undef, undef, undef, undef, undef, Value.func (Fn.func 23) #[] #[Value.pointer (some ⟨w2.heap.size + 1 + 1, 0, none⟩)], .int .i64 (x.1 : Int), .int .i32 (lid x.2 : Int), undef, undef, undef, undef, undef, undef, undef, undef, undef, undef, undef, undef, undef, undef, undef, undef, undef, undef, undef, undef, undef, undef, undef, undef, undef, undef, undef, undef, undef, undef, undef, undef, undef, undef, undef, undef, undef], defers := [] }) ?assign2 ?body2 ?done2 ?stop2
    case assign2 =>
      intro l x V K hK
      clear c4 f4 s4 lt3 lt4
      gi_wp2
      exact hK
    case body2 =>
      rintro l2 pre x V ⟨⟨⟨hc, hf, hp⟩, hB⟩, hKD⟩ hlen
      have hDB : D ≠ Bn := by omega
      obtain ⟨x1, x2, x3, x4, x5, x6⟩ := BX.out V hB
      obtain ⟨b1, o1, u1, rfl, _, hu1, hc1⟩ := x3.at1 hlen
      obtain ⟨b2, o2, u2, rfl, _, hu2, hc2⟩ := x4.at1 hlen
      obtain ⟨p, q, hpq⟩ : ∃ p q, (runesL s)[pre.length] = (p, q) := ⟨_, _, rfl⟩
      have e1 : (runesV (runesL s))[pre.length]? = some (.int .i64 (q : Int)) := by simp [runesV, hlen, hpq]
      have e2 : (placesV (runesL s))[pre.length]? = some (.int .i64 (p : Int)) := by simp [placesV, hlen, hpq]
      rw [e1] at hu1
      rw [e2] at hu2
      injection hu1 with hu1
      injection hu2 with hu2
      subst hu1 hu2
      obtain ⟨xk, xr⟩ := x
      have hlm : (pre.map lidp).length = pre.length := List.length_map _
      have hsn : (pre.map lidp ++ [(xk, lid xr)] <+: runesL s) ↔ (p, q) = (xk, lid xr) := by
        have := pre_snoc hp (y := (xk, lid xr)) (by rw [hlm]; exact hlen)
        rw [this]
        simp only [hlm, hpq]
      have hmp : (pre ++ [(xk, xr)]).map lidp = pre.map lidp ++ [(xk, lid xr)] := by simp [lidp]
      have hy := lid_le xr
      have HS := Lib.hid hsn
      have HM := Lib.hid hmp
      have hlen2 : (pre ++ [(xk, xr)]).length = pre.length + 1 := by simp
      have HL2 := Lib.hid hlen2
      have n1 : decide ((runesL s).length ≤ pre.length) = false := by rw [decide_eq_false_iff_not]; omega
      have hsum : (pre.length : Int) + 1 ≤ 9223372036854775807 := by omega
      have hl3 : (pre.length : Int) < ((runesL s).length : Int) := by omega
      clear hsn hmp hpq e1 e2 hlm x3 x4 hlen2 c4 f4 s4 lt3
      generalize lid xr = y at *
      by_cases hk : xk = p
      · subst hk
        have k1 : ((xk : Int) != (xk : Int)) = false := by simp
        by_cases hr : y = q
        · subst hr
          have k2 : ((y : Int) != (y : Int)) = false := by simp
          gi_wp2
          refine ⟨KeepsOthers.setCell _ _ _, ⟨Below.heap_setCell _ _ _ _ (by show _ ≠ Bn; rw [HBn.out]; omega), (Below.refl Bn V).setCell (p := ⟨Bn, 0, none⟩) (Nat.le_refl _) _⟩, ⟨⟨?_, by rw [World.frozen?_setCell]; exact hf, by rw [HM.out]; first | exact HS.out.2 trivial | exact HS.out.2 rfl⟩, hB.setCell (p := ⟨Bn, 0, none⟩) (Nat.le_refl _) _⟩, (Below.heap_setCell _ _ _ _ hDB).trans hKD⟩
          rw [HL2.out]
          exact World.cell?_setCell_same' _ _ _ (by rw [hc]; rfl)
        · have k2 : ((y : Int) != (q : Int)) = true := by rw [bne_iff_ne]; omega
          have HNN : Hid (¬ ((pre ++ [(xk, xr)]).map lidp <+: runesL s)) := fun h => by rw [HM.out] at h; have := HS.out.1 h; injection this with _ h2; exact hr h2.symm
          clear HS HM
          gi_wp2
          exact ⟨KeepsOthers.setCell _ _ _, rfl, HNN.out⟩
      · have k1 : ((xk : Int) != (p : Int)) = true := by rw [bne_iff_ne]; omega
        have HNN : Hid (¬ ((pre ++ [(xk, xr)]).map lidp <+: runesL s)) := fun h => by rw [HM.out] at h; have := HS.out.1 h; injection this with h2 _; exact hk h2.symm
        clear HS HM
        gi_wp2
        exact ⟨KeepsOthers.setCell _ _ _, rfl, HNN.out⟩
    case done2 =>
      rintro D2 ys V hD2 rfl ⟨⟨⟨hc, hf, hp⟩, hB⟩, hKD⟩ hK2
      have hDr : w.heap.size + 1 < D := by have := R0.low; have := HBn.out; omega
      have hDD : D < D2 := by have := at_lt K4; omega
      obtain ⟨x1, x2, x3, x4, x5, x6⟩ := BX.out V hB
      clear x2 x3 x4 c4 f4 s4 lt3
      have HC := Lib.hid (fun U (hU : Tabs U) => (callsIn_wide.2 (count_utf s U (by omega) hU) : CallsIn Fence.wide 4 Tryd.prog _ _ _ _))
      have HK := Lib.hid (fun U (hU : Tabs U) => (callsIn_wide.2 (known_any U hU) : CallsIn Fence.wide 4 Tryd.prog _ _ _ _))
      have TV := Lib.hid (T4.trans (hB.mono (by rw [HBn.out]; have := R0.low; omega)))
      have hlow := R0.low
      have hvs : w2.heap.size + 1 + 1 + 1 < V.heap.size := by have := hB.size; have := HBn.out; omega
      gi_wp2
      have HTT := Lib.hid (fun U (hU : Below V.heap.size V U) => tabs_below HT.out (TV.out.trans (hU.mono TV.out.size)))
      have hmix : Tryd.prog.follows .mixedOrders = true := by kernel_rfl
      refine wpIn_mono (Q := NormOnly _) ?_ normOnly_of
      gi_region_with (first
        | (refine ⟨trivial, ?_⟩; gi_at_call 14; refine (HC.out _ (HTT.out _ (Below.refl _ V).drew)).mono ?_; rintro e w5 ⟨rfl, b5⟩; have y1 : w5.cell? ⟨w2.heap.size, 0, none⟩ = some (.slice A1 (runesL s).length c1) := (b5.cell (p := ⟨w2.heap.size, 0, none⟩) (by show w2.heap.size < V.heap.size; omega)).trans x1)
        | (refine ⟨trivial, ?_⟩; gi_at_call 11; refine (HK.out _ (HTT.out _ ((Below.refl _ V).drew.trans b5))).mono ?_; rintro e w6 ⟨rfl, b6⟩; have y5 : w6.cell? ⟨w.heap.size + 1, 0, none⟩ = some (.bool false) := ((b6.cell (p := ⟨w.heap.size + 1, 0, none⟩) (by have := b5.size; show w.heap.size + 1 < w5.heap.size; have e : V.drew.heap.size = V.heap.size := rfl; omega)).trans (b5.cell (p := ⟨w.heap.size + 1, 0, none⟩) (by show w.heap.size + 1 < V.heap.size; omega))).trans x5; have y6 : w6.frozen? ⟨w.heap.size + 1, 0, none⟩ = false := ((b6.frozen (p := ⟨w.heap.size + 1, 0, none⟩) (by have := b5.size; show w.heap.size + 1 < w5.heap.size; have e : V.drew.heap.size = V.heap.size := rfl; omega)).trans (b5.frozen (p := ⟨w.heap.size + 1, 0, none⟩) (by show w.heap.size + 1 < V.heap.size; omega))).trans x6))
      all_goals
        unfold NormOnly
        have z5 : V.heap.size ≤ w5.heap.size := b5.size
        have bV : Below V.heap.size V w6 := ((Below.refl _ V).drew.trans b5).trans (b6.mono z5)
        have kA : (w6.setCell ⟨w.heap.size + 1, 0, none⟩ (.bool true)).heap[D2]? = some (.deferred (some [])) := (Below.heap_setCell _ _ _ _ (by show D2 ≠ w.heap.size + 1; omega)).trans ((bV.block D2 (at_lt hK2)).trans hK2)
        have kB0 : (w6.setCell ⟨w.heap.size + 1, 0, none⟩ (.bool true)).heap[D]? = some (.deferred (some [])) := (Below.heap_setCell _ _ _ _ (by show D ≠ w.heap.size + 1; omega)).trans ((bV.block D (at_lt hKD)).trans hKD)
        have kB : ((w6.setCell ⟨w.heap.size + 1, 0, none⟩ (.bool true)).putObj D2 (.deferred none)).heap[D]? = some (.deferred (some [])) := ((grownBy_putObj' _ D2 _).block D (at_lt kB0) (by intro e; injection e; omega)).trans kB0
        have cA := cell_kept (World.cell?_setCell_same' w6 ⟨w.heap.size + 1, 0, none⟩ (.bool true) (by rw [y5]; rfl)) (grownBy_putObj' _ D2 (.deferred none)) (fun r e => by cases e; exact ⟨_, kA, rfl⟩)
        have cB := cell_kept cA (grownBy_putObj' _ D (.deferred none)) (fun r e => by cases e; exact ⟨_, kB, rfl⟩)
        have bF : Below w.heap.size w (w6.setCell ⟨w.heap.size + 1, 0, none⟩ (.bool true)) := (TV.out.trans (bV.mono TV.out.size)).setCell (p := ⟨w.heap.size + 1, 0, none⟩) (by show w.heap.size ≤ w.heap.size + 1; omega) _
        have bG := bF.trans (belowK_b (w := w) (Nat.le_refl _) _ D2 _ (.deferred none) (by omega) kA rfl rfl)
        have bH := bG.trans (belowK_b (w := w) (Nat.le_refl _) _ D _ (.deferred none) (by omega) kB rfl rfl)
        clear y5 y6 x1 x5 x6 hc hf
        gi_wp2
        refine ⟨by simp, .inl ⟨_, _, rfl, run_takeDeferred kA, ?_⟩⟩
        refine ⟨by simp, .inl ⟨_, _, rfl, run_takeDeferred kB, ?_⟩⟩
        refine ⟨.bool true, by simp [results, Tryd.results4, go_sem, cB], rfl, bH⟩
    case stop2 =>
      rintro D2 c pre V hD2 hp ⟨rfl, hn⟩ hK2
      exact absurd (by rw [lidp_map hp]; exact hp) hn
theorem utfRunes_walk (s : ByteArray) (few : Int) (w : World) (hT : Tabs w) (_h : s.size ≤ 140737488351232) (_ha : -9223372036854775808 ≤ few) (_hb : few ≤ 9223372036854775807) (hk : s.size ≤ 1048576) :
    Calls Tryd.prog 4 #[.string s, .int .i64 few] w fun e w' => e = .returned (.bool true) ∧ Below w.heap.size w w' := by
  have := callsIn_wide.1 (utfRunes_in s.data.toList few w (by rw [← Lib.size_eq]; exact hk) hT)
  rw [← bs_of] at this
  exact this
end Go.Proofs.YtgeefnmgejnemaaDoor
