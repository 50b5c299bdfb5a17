/- utf.escapes and utf.marks: two maps of runes. -/
import Derived.Test.YtgeefnmgejnemaaDoorWords
import Derived.Maps.OwnOps
import Derived.Maps.OwnSet
import Derived.Maps.RangeWalk
import Derived.Maps.Ext
import Derived.OwnWalk
namespace Go.Proofs.YtgeefnmgejnemaaDoor
open Go.RowKit Go.Maps
set_option linter.unusedSimpArgs false
set_option linter.unusedVariables false

theorem runeLaw : Keyed Tryd.prog 21 := int_keyed Tryd.underlying21
/-- A map of runes that a call made. -/
def RuneMap (w : World) (b n : Nat) (D : DataW Unit) : Prop := w.ownsMap Tryd.prog 21 (plainElem Tryd.prog 21) b n D
def runeL (r : Int) : Lit := .int .i32 r
def putR (D : DataW Unit) (r c : Int) : DataW Unit := D.put (.int .i32 r) (.lit (.int .i32 c))
theorem RuneMap.put {w : World} {b n : Nat} {D : DataW Unit} (h : RuneMap w b n D) (hn : n < 1000) (r c : Int) (hr : (Lit.int .i32 r).wf = true) (hc : (Lit.int .i32 c).wf = true) :
    ∃ w', (Instr.mapUpdate 50 (.map (some b)) (.int .i32 r) (.int .i32 c)).run Tryd.prog w = .ok () w' ∧ RuneMap w' b (n + 1) (putR D r c) ∧ w.grownBy w' (some b) :=
  World.ownsMap.update h runeLaw Tryd.underlying50 (by unfold maxLen; omega) (keyOf_int_mk Tryd.underlying21 hr) (plainElem_int Tryd.underlying21 hc)
def escD : DataW Unit := .map [(runeL 34, .lit (runeL 34)), (runeL 47, .lit (runeL 47)), (runeL 92, .lit (runeL 92)), (runeL 98, .lit (runeL 8)), (runeL 102, .lit (runeL 12)), (runeL 110, .lit (runeL 10)), (runeL 114, .lit (runeL 13)), (runeL 116, .lit (runeL 9))]
theorem escD_eq : putR (putR (putR (putR (putR (putR (putR (putR (.map []) 34 34) 92 92) 47 47) 98 8) 102 12) 110 10) 114 13) 116 9 = escD := by rfl
/-- The escapes, in a map of their own. -/
def EscMap (w : World) (e : Ending) (w' : World) : Prop := e = .returned (.map (some w.heap.size)) ∧ RuneMap w' w.heap.size 8 escD ∧ Below w.heap.size w w'
set_option maxRecDepth 100000 in
theorem esc_any (w : World) : Calls Tryd.prog 32 #[] w (EscMap w) := by
  have hmm := @run_makeMap Tryd.prog
  have o0 : RuneMap (w.alloc (.map #[] 0)) w.heap.size 0 (.map []) := World.ownsMap_made _ _ _ _
  obtain ⟨w0, hw0⟩ : ∃ w0, w.alloc (.map #[] 0) = w0 := ⟨_, rfl⟩
  have b0 : Below w.heap.size w w0 := by rw [← hw0]; exact (Below.refl _ w).alloc (Nat.le_refl _) _
  rw [hw0] at o0
  obtain ⟨w1, r1, o1, g1⟩ := o0.put (by omega) 34 34 (by decide) (by decide)
  obtain ⟨w2, r2, o2, g2⟩ := o1.put (by omega) 92 92 (by decide) (by decide)
  obtain ⟨w3, r3, o3, g3⟩ := o2.put (by omega) 47 47 (by decide) (by decide)
  obtain ⟨w4, r4, o4, g4⟩ := o3.put (by omega) 98 8 (by decide) (by decide)
  obtain ⟨w5, r5, o5, g5⟩ := o4.put (by omega) 102 12 (by decide) (by decide)
  obtain ⟨w6, r6, o6, g6⟩ := o5.put (by omega) 110 10 (by decide) (by decide)
  obtain ⟨w7, r7, o7, g7⟩ := o6.put (by omega) 114 13 (by decide) (by decide)
  obtain ⟨w8, r8, o8, g8⟩ := o7.put (by omega) 116 9 (by decide) (by decide)
  rw [escD_eq] at o8
  have bel : Below w.heap.size w w8 := by
    have k : ∀ {a b : World}, Below w.heap.size w a → a.grownBy b (some w.heap.size) → Below w.heap.size w b := fun h g => h.grown g h.size (fun j hj => by cases hj; exact Nat.le_refl _)
    exact k (k (k (k (k (k (k (k b0 g1) g2) g3) g4) g5) g6) g7) g8
  have HF : Hid (EscMap w (.returned (.map (some w.heap.size))) w8) := ⟨rfl, o8, bel⟩
  clear o0 o1 o2 o3 o4 o5 o6 o7 o8 g1 g2 g3 g4 g5 g6 g7 g8 bel b0
  go_enter Tryd.func32, Tryd.ntmps32
  go_wp2
  go_ret
  exact HF.out
end Go.Proofs.YtgeefnmgejnemaaDoor
