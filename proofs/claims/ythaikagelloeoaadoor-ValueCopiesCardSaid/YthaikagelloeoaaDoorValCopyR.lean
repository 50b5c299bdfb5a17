import Derived.Test.YthaikagelloeoaaDoorValCopy
import Derived.Test.YthaikagelloeoaaDoorValChain
import Derived.Deep.RegionHeld3
import Derived.Deep.DeepCutAuto
import Derived.Deep.CutBlock
import Derived.Deep.RegionLaw
namespace Go.Proofs.YthaikagelloeoaaDoor
open Go.RowKit Val
set_option linter.unusedSimpArgs false
set_option linter.unusedVariables false

theorem refCopy_zero : CopyAt 18 0 := fun cs v w h => absurd h (by simp [VIn])

/-- A box of a value in the making: the cells of a block. -/
def Box6 (w : World) (g : Nat) (a b c d e f : Value) : Prop :=
  w.cell? ⟨g, 0, none⟩ = some a ∧ w.cell? ⟨g, 1, none⟩ = some b ∧ w.cell? ⟨g, 2, none⟩ = some c ∧ w.cell? ⟨g, 3, none⟩ = some d ∧ w.cell? ⟨g, 4, none⟩ = some e ∧ w.cell? ⟨g, 5, none⟩ = some f ∧ ∀ o, w.frozen? ⟨g, o, none⟩ = false
theorem Box6.keep {w w' : World} {g : Nat} {a b c d e f : Value} (h : Box6 w g a b c d e f) (hk : w'.heap[g]? = w.heap[g]?) : Box6 w' g a b c d e f := by
  have hc : ∀ o, w'.cell? ⟨g, o, none⟩ = w.cell? ⟨g, o, none⟩ := fun o => World.cell?_of_block (a := ⟨g, o, none⟩) hk
  have hf : ∀ o, w'.frozen? ⟨g, o, none⟩ = w.frozen? ⟨g, o, none⟩ := fun o => World.frozen?_of_block (a := ⟨g, o, none⟩) hk
  obtain ⟨h0, h1, h2, h3, h4, h5, h6⟩ := h
  exact ⟨(hc 0).trans h0, (hc 1).trans h1, (hc 2).trans h2, (hc 3).trans h3, (hc 4).trans h4, (hc 5).trans h5, fun o => (hf o).trans (h6 o)⟩
theorem Box6.set4 {w : World} {g : Nat} {a b c d e f : Value} (h : Box6 w g a b c d e f) (u : Value) : Box6 (w.setCell ⟨g, 4, none⟩ u) g a b c d u f := by
  obtain ⟨h0, h1, h2, h3, h4, h5, h6⟩ := h
  refine ⟨?_, ?_, ?_, ?_, ?_, ?_, fun o => ?_⟩
  · rw [World.cell?_setCell_other _ _ _ _ (by simp), h0]
  · rw [World.cell?_setCell_other _ _ _ _ (by simp), h1]
  · rw [World.cell?_setCell_other _ _ _ _ (by simp), h2]
  · rw [World.cell?_setCell_other _ _ _ _ (by simp), h3]
  · rw [World.cell?_setCell_same _ _ _ h4]
  · rw [World.cell?_setCell_other _ _ _ _ (by simp), h5]
  · rw [World.frozen?_setCell]; exact h6 o
theorem Box6.set5 {w : World} {g : Nat} {a b c d e f : Value} (h : Box6 w g a b c d e f) (u : Value) : Box6 (w.setCell ⟨g, 5, none⟩ u) g a b c d e u := by
  obtain ⟨h0, h1, h2, h3, h4, h5, h6⟩ := h
  refine ⟨?_, ?_, ?_, ?_, ?_, ?_, fun o => ?_⟩
  · rw [World.cell?_setCell_other _ _ _ _ (by simp), h0]
  · rw [World.cell?_setCell_other _ _ _ _ (by simp), h1]
  · rw [World.cell?_setCell_other _ _ _ _ (by simp), h2]
  · rw [World.cell?_setCell_other _ _ _ _ (by simp), h3]
  · rw [World.cell?_setCell_other _ _ _ _ (by simp), h4]
  · rw [World.cell?_setCell_same _ _ _ h5]
  · rw [World.frozen?_setCell]; exact h6 o

/-- What a round leaves that has appended a value. -/
theorem leafL {wm wr w4 w5 : World} {n b3 j c' : Nat} {xs ds : List Value} {out : Value} {l : List Val} {m : Val} {A' : Option Addr} {a b c d e f : Value} {o : Obj} {T : TypeId}
    (hb : wm.grownBy wr (some b3)) (hb3 : b3 < wm.heap.size) (HR : RowsO 6 (VO wr (Span wm.heap.size wr.heap.size out.ownBlock) n) xs (l.take j)) (hT : l.take (j + 1) = l.take j ++ [m]) (hob : ∀ k, out.ownBlock = some k → wm.heap.size ≤ k ∧ k < wr.heap.size)
    (b5 : Below wr.heap.size wr w4) (hnew : VO w4 (Span wr.heap.size w4.heap.size none) n ds m) (hds : ds.length = 6) (hown5 : w5.ownsRow wm.heap.size T 6 (.slice A' (j + 1) c') (j + 1) (xs ++ ds)) (hg : (w4.alloc o).grownBy w5 out.ownBlock)
    (hat : (Value.slice A' (j + 1) c').ownBlock = out.ownBlock ∨ (Value.slice A' (j + 1) c').ownBlock = some (w4.alloc o).heap.size) (hbx : Box6 w5 b3 a b c d e f) :
    (w5.setCell ⟨b3, 4, none⟩ (.slice A' (j + 1) c')).ownsRow wm.heap.size T 6 (.slice A' (j + 1) c') (j + 1) (xs ++ ds) ∧
      Hid (RowsO 6 (VO (w5.setCell ⟨b3, 4, none⟩ (.slice A' (j + 1) c')) (Span wm.heap.size (w5.setCell ⟨b3, 4, none⟩ (.slice A' (j + 1) c')).heap.size (Value.slice A' (j + 1) c').ownBlock) n) (xs ++ ds) (l.take (j + 1))) ∧
      Box6 (w5.setCell ⟨b3, 4, none⟩ (.slice A' (j + 1) c')) b3 a b c d (.slice A' (j + 1) c') f ∧ wm.grownBy (w5.setCell ⟨b3, 4, none⟩ (.slice A' (j + 1) c')) (some b3) := by
  have hsz0 := hb.size
  refine ⟨own_set hown5 hb3 _, ?_, hbx.set4 _, ?_⟩
  · rw [hT]
    refine Lib.hid ((rows_step (P := fun w S ds x => VO w S n ds x) (@fun _ _ _ _ hS hk _ _ h => VO.keep hS hk h) HR hob b5 (Nat.le_refl _) hsz0 hnew hds hg hat).mono fun ds x h => h.keep (fun g hg => ⟨hg.1, by have := hg.2.1; simpa [World.setCell] using this, hg.2.2⟩) ((SameAt.refl _ _).set (fun g hg => by have := hg.1; show g ≠ b3; omega) _))
  · exact grown_set (grown_row (grown_alloc (grown_below3 hb b5) o) hg (fun k hk => (hob k hk).1)) _
theorem boxL {wr w4 w5 : World} {b3 : Nat} {out : Value} {a b c d e f : Value} {o : Obj} {lo : Nat} (hlo : b3 < lo) (hle : lo ≤ wr.heap.size) (hob : ∀ k, out.ownBlock = some k → lo ≤ k ∧ k < wr.heap.size) (b5 : Below wr.heap.size wr w4) (hg : (w4.alloc o).grownBy w5 out.ownBlock) (h : Box6 w4 b3 a b c d e f) : Box6 w5 b3 a b c d e f := by
  have := b5.size
  exact h.keep ((hg.block _ (by rw [World.size_alloc]; omega) (fun e => by have := (hob _ e.symm).1; omega)).trans (heap_alloc_old _ _ (by omega)))
/-- What a round leaves that has appended a member. -/
theorem leafM {wm wr w4 w5 : World} {n b3 j c' : Nat} {xs ds : List Value} {out : Value} {l : List (List UInt8 × Val)} {m : (List UInt8 × Val)} {A' : Option Addr} {a b c d e f : Value} {o : Obj} {T : TypeId}
    (hb : wm.grownBy wr (some b3)) (hb3 : b3 < wm.heap.size) (HR : RowsO 7 (MO wr (Span wm.heap.size wr.heap.size out.ownBlock) n) xs (l.take j)) (hT : l.take (j + 1) = l.take j ++ [m]) (hob : ∀ k, out.ownBlock = some k → wm.heap.size ≤ k ∧ k < wr.heap.size)
    (b5 : Below wr.heap.size wr w4) (hnew : MO w4 (Span wr.heap.size w4.heap.size none) n ds m) (hds : ds.length = 7) (hown5 : w5.ownsRow wm.heap.size T 7 (.slice A' (j + 1) c') (j + 1) (xs ++ ds)) (hg : (w4.alloc o).grownBy w5 out.ownBlock)
    (hat : (Value.slice A' (j + 1) c').ownBlock = out.ownBlock ∨ (Value.slice A' (j + 1) c').ownBlock = some (w4.alloc o).heap.size) (hbx : Box6 w5 b3 a b c d e f) :
    (w5.setCell ⟨b3, 5, none⟩ (.slice A' (j + 1) c')).ownsRow wm.heap.size T 7 (.slice A' (j + 1) c') (j + 1) (xs ++ ds) ∧
      Hid (RowsO 7 (MO (w5.setCell ⟨b3, 5, none⟩ (.slice A' (j + 1) c')) (Span wm.heap.size (w5.setCell ⟨b3, 5, none⟩ (.slice A' (j + 1) c')).heap.size (Value.slice A' (j + 1) c').ownBlock) n) (xs ++ ds) (l.take (j + 1))) ∧
      Box6 (w5.setCell ⟨b3, 5, none⟩ (.slice A' (j + 1) c')) b3 a b c d e (.slice A' (j + 1) c') ∧ wm.grownBy (w5.setCell ⟨b3, 5, none⟩ (.slice A' (j + 1) c')) (some b3) := by
  have hsz0 := hb.size
  refine ⟨own_set hown5 hb3 _, ?_, hbx.set5 _, ?_⟩
  · rw [hT]
    refine Lib.hid ((rows_step (P := fun w S ds x => MO w S n ds x) (@fun _ _ _ _ hS hk _ _ h => MO.keep hS hk h) HR hob b5 (Nat.le_refl _) hsz0 hnew hds hg hat).mono fun ds x h => h.keep (fun g hg => ⟨hg.1, by have := hg.2.1; simpa [World.setCell] using this, hg.2.2⟩) ((SameAt.refl _ _).set (fun g hg => by have := hg.1; show g ≠ b3; omega) _))
  · exact grown_set (grown_row (grown_alloc (grown_below3 hb b5) o) hg (fun k hk => (hob k hk).1)) _
theorem boxM {wr w4 w5 : World} {b3 : Nat} {out : Value} {a b c d e f : Value} {o : Obj} {lo : Nat} (hlo : b3 < lo) (hle : lo ≤ wr.heap.size) (hob : ∀ k, out.ownBlock = some k → lo ≤ k ∧ k < wr.heap.size) (b5 : Below wr.heap.size wr w4) (hg : (w4.alloc o).grownBy w5 out.ownBlock) (h : Box6 w4 b3 a b c d e f) : Box6 w5 b3 a b c d e f := by
  have := b5.size
  exact h.keep ((hg.block _ (by rw [World.size_alloc]; omega) (fun e => by have := (hob _ e.symm).1; omega)).trans (heap_alloc_old _ _ (by omega)))
theorem one6 (k : Int) (b : Bool) (i : Int) (s : ByteArray) (A1 A2 : Option Addr) (x y : Nat × Nat) : ∀ u ∈ [Value.int .i64 k, .bool b, .int .i64 i, .string s, .slice A1 x.1 x.2, .slice A2 y.1 y.2], u.oneCell' = true := by
  intro u hu
  simp only [List.mem_cons, List.not_mem_nil, or_false] at hu
  rcases hu with rfl | rfl | rfl | rfl | rfl | rfl <;> rfl

theorem one7 (c : ByteArray) (k : Int) (b : Bool) (i : Int) (s : ByteArray) (A1 A2 : Option Addr) (x y : Nat × Nat) : ∀ u ∈ [Value.string c, .int .i64 k, .bool b, .int .i64 i, .string s, .slice A1 x.1 x.2, .slice A2 y.1 y.2], u.oneCell' = true := by
  intro u hu
  simp only [List.mem_cons, List.not_mem_nil, or_false] at hu
  rcases hu with rfl | rfl | rfl | rfl | rfl | rfl | rfl <;> rfl

@[local go_sem] def ld23 : Oper := { dst := some 23, op := Op.load 23 (Operand.tmp 22), type := 23, pos := "ref.go:150", after := #[{ on := 0, ground := Ground.data }], guard := none }
@[local go_sem] def ld41 : Oper := { dst := some 41, op := Op.load 24 (Operand.tmp 40), type := 24, pos := "ref.go:153", after := #[{ on := 0, ground := Ground.data }], guard := none }

set_option maxRecDepth 100000 in
set_option maxHeartbeats 16000000 in
theorem refCopy_step (n : Nat) (ih : CopyAt 18 n) : CopyAt 18 (n + 1) := by
  intro cs v w hv hf
  obtain ⟨iv, hiv, hv0, hv1, hv2⟩ := info_parts info_val3
  obtain ⟨im, him, hm0, hm1, hm2⟩ := info_parts info_mem3
  obtain ⟨hf1, hf2, hf3, hf4⟩ := hf
  obtain ⟨n', A1, c1, A2, c2, e, rfl, hk, hi, hs, hl, ho, hc1, hc2, hL, hO⟩ := hv.open
  obtain rfl : n = n' := by omega
  obtain ⟨w1, hw1⟩ : ∃ w1, ((w.alloc (.cells #[.int .i64 v.k, .bool v.b, .int .i64 v.i, .string (bs v.s), .slice A1 v.l.length c1, .slice A2 v.o.length c2] 26)).alloc (.cells #[.int .i64 0, .bool false, .int .i64 0, .string ⟨#[]⟩, .slice none 0 0, .slice none 0 0] 26)).alloc (.cells #[.int .i64 v.k, .bool v.b, .int .i64 v.i, .string (bs v.s), .slice none 0 0, .slice none 0 0] 26) = w1 := ⟨_, rfl⟩
  have b1 : Below w.heap.size w w1 := by rw [← hw1]; exact (((Below.refl _ w).alloc (Nat.le_refl _) _).alloc (by simp) _).alloc (by simp; omega) _
  have z1 : w1.heap.size = w.heap.size + 3 := by rw [← hw1]; simp
  have hb3 : Box6 w1 (w.heap.size + 2) (.int .i64 v.k) (.bool v.b) (.int .i64 v.i) (.string (bs v.s)) (.slice none 0 0) (.slice none 0 0) := by
    have h := box666 (w := w) (w1 := w1) (by rw [hw1]; exact Below.refl _ _)
    have hg : w1.heap[w.heap.size + 2]? = some (.cells #[.int .i64 v.k, .bool v.b, .int .i64 v.i, .string (bs v.s), .slice none 0 0, .slice none 0 0] 26 (0, 0)) := by
      rw [← hw1]
      have := heap_alloc_new ((w.alloc (.cells #[.int .i64 v.k, .bool v.b, .int .i64 v.i, .string (bs v.s), .slice A1 v.l.length c1, .slice A2 v.o.length c2] 26)).alloc (.cells #[.int .i64 0, .bool false, .int .i64 0, .string ⟨#[]⟩, .slice none 0 0, .slice none 0 0] 26)) (.cells #[.int .i64 v.k, .bool v.b, .int .i64 v.i, .string (bs v.s), .slice none 0 0, .slice none 0 0] 26)
      rw [World.size_alloc, World.size_alloc] at this
      exact this
    obtain ⟨-, -, -, -, -, -, -, -, -, -, -, -, h0, h1, h2, h3, h4, h5⟩ := h
    exact ⟨h0, h1, h2, h3, h4, h5, fun o => by unfold World.frozen?; rw [hg]; simp⟩
  have hbox : Hid (∀ W, w1.grownBy W (some (w.heap.size + 2)) → W.cell? ⟨w.heap.size, 4, none⟩ = some (.slice A1 v.l.length c1) ∧ W.cell? ⟨w.heap.size, 5, none⟩ = some (.slice A2 v.o.length c2)) := fun W hW => by
    have h := box666 (w := w) (w1 := w1) (by rw [hw1]; exact Below.refl _ _)
    obtain ⟨-, -, -, -, q4, q5, -⟩ := h
    exact ⟨(grown_cell hW w.heap.size 4 (by omega) (by simp)).1.trans q4, (grown_cell hW w.heap.size 5 (by omega) (by simp)).1.trans q5⟩
  have hres : Hid (∀ W, w1.grownBy W (some (w.heap.size + 2)) → Box6 W (w.heap.size + 1) (.int .i64 0) (.bool false) (.int .i64 0) (.string ⟨#[]⟩) (.slice none 0 0) (.slice none 0 0)) := fun W hW => by
    have h := box666 (w := w) (w1 := w1) (by rw [hw1]; exact Below.refl _ _)
    obtain ⟨-, -, -, -, -, -, h0, h1, h2, h3, h4, h5, -⟩ := h
    have hg : w1.heap[w.heap.size + 1]? = some (.cells #[.int .i64 0, .bool false, .int .i64 0, .string ⟨#[]⟩, .slice none 0 0, .slice none 0 0] 26 (0, 0)) := by
      rw [← hw1, heap_alloc_old _ _ (by simp)]
      exact heap_alloc2_new w _ _
    exact Box6.keep (w := w1) ⟨h0, h1, h2, h3, h4, h5, fun o => by unfold World.frozen?; rw [hg]; simp⟩ (hW.block _ (by omega) (by simp))
  have HW := Lib.hid hw1
  have IH := Lib.hid ih
  have HL := Lib.hid (show LIn w w.heap.size n A1 v.l from hL)
  have HO := Lib.hid (show OIn w w.heap.size n A2 v.o from hO)
  have HF3 := Lib.hid hf3
  have HF4 := Lib.hid hf4
  have HB := Lib.hid (And.intro hk (And.intro hi (And.intro hs (And.intro hl ho))))
  clear hv ih hL hO hw1 hk hi hs hf3 hf4 e
  obtain ⟨q4, q5⟩ := hbox.out w1 ⟨rfl, rfl, rfl, Nat.le_refl _, fun _ _ _ => rfl⟩
  have gk : ∀ W, w1.grownBy W (some (w.heap.size + 2)) → ∀ g, g < w.heap.size → ∀ o, W.cell? ⟨g, o, none⟩ = w.cell? ⟨g, o, none⟩ := fun W hW g hg o =>
    (grown_cell hW g o (by omega) (by simp; omega)).1.trans (b1.cell (p := ⟨g, o, none⟩) hg)
  have GK := Lib.hid gk
  clear gk
  go_enter Tryd.func18, Tryd.ntmps18
  go_wp2_with fail
  rw [HW.out]
  go_loopw [4] (fun i wr => ∃ (j : Nat) (xs : List Value) (out : Value), j ≤ v.l.length ∧ i = .int .i64 j ∧ wr.ownsRow w1.heap.size 26 6 out j xs ∧ Hid (RowsO 6 (VO wr (Span w1.heap.size wr.heap.size out.ownBlock) n) xs (v.l.take j)) ∧
      Box6 wr (w.heap.size + 2) (.int .i64 v.k) (.bool v.b) (.int .i64 v.i) (.string (bs v.s)) out (.slice none 0 0) ∧ w1.grownBy wr (some (w.heap.size + 2))) (fun i _ => v.l.length - (intOf i).toNat)
  case atStart => exact ⟨0, [], .slice none 0 0, Nat.zero_le _, rfl, World.ownsRow_nil _ _ _ _, RowsO.nil _ _, hb3, ⟨rfl, rfl, rfl, Nat.le_refl _, fun _ _ _ => rfl⟩⟩
  case round =>
    obtain ⟨j, xs, out, hj, rfl, hown, HR, hbx, hb⟩ := hrel
    clear q4 q5
    obtain ⟨q4, q5⟩ := hbox.out wr hb
    by_cases hlt : j < v.l.length
    · obtain ⟨x, hx⟩ : ∃ x, v.l[j]? = some x := ⟨_, List.getElem?_eq_getElem hlt⟩
      have hxl : v.l[j] = x := (List.getElem?_eq_some_iff.1 hx).2
      obtain ⟨g, p, ds, hA, hgB, hr, hxi⟩ := HL.out j x hx
      have HT := Lib.hid (show v.l.take (j + 1) = v.l.take j ++ [x] by rw [List.take_succ_eq_append_getElem hlt, hxl])
      have HI := Lib.hid fun W (hW : w1.grownBy W (some (w.heap.size + 2))) => IH.out ds x W (hxi.keep (by have := hW.size; have := b1.size; omega) fun q hq => by
        have hk2 := hW.block q.block (by have := b1.size; omega) (by simp; omega)
        exact (World.cell?_of_block hk2).trans (b1.cell hq)) (HF3.out x (List.mem_of_getElem? hx))
      obtain ⟨_, B1, e1, B2, e2, -, rfl, -⟩ := hxi.open
      have HE := Lib.hid fun W (hW : w1.grownBy W (some (w.heap.size + 2))) => range6 (w := W) (fun i u hu => (GK.out W hW g hgB (p + j * 6 + i)).trans (hr i u hu))
      subst hA
      clear hxl hx hr hxi
      obtain ⟨a0, a1, a2, a3, a4, a5⟩ := HE.out wr hb
      have HBX := Lib.hid hbx
      obtain ⟨x0, x1, x2, x3, x4, x5, xf⟩ := hbx
      clear x0 x1 x2 x3 x5 xf
      have hob := hown.lt
      have HOB := Lib.hid hob
      have hsz0 := hb.size
      have hblt : w.heap.size + 2 < w1.heap.size := by omega
      clear hob
      go_upto_block 1 with (fail)
      go_cut [4] (fun s wc => s = .int .i64 j ∧ ∃ (xs' : List Value) (out' : Value), wc.ownsRow w1.heap.size 26 6 out' (j + 1) xs' ∧ Hid (RowsO 6 (VO wc (Span w1.heap.size wc.heap.size out'.ownBlock) n) xs' (v.l.take (j + 1))) ∧ Box6 wc (w.heap.size + 2) (.int .i64 v.k) (.bool v.b) (.int .i64 v.i) (.string (bs v.s)) out' (.slice none 0 0) ∧ w1.grownBy wc (some (w.heap.size + 2)))
      case rest =>
        clear hown HR HBX HOB hb x4 HE HI q4 q5 hsz0
        obtain ⟨rfl, xs', out', hown', HR', hbx', hb'⟩ := hcut
        go_wp2
        go_roundw
        case rel => exact ⟨j + 1, xs', out', by omega, by go_num, hown', HR', hbx', hb'⟩
        case measure => simp [intOf]; omega
      case first =>
        go_wp2_with fail
        rw [show ({ dst := some 23, op := Op.load 23 (Operand.tmp 22), type := 23, pos := "ref.go:150", after := #[{ on := 0, ground := Ground.data }], guard := none } : Oper) = ld23 from rfl]
        go_region_held3 (fun w' => w'.cell? ⟨w.heap.size, 4, none⟩ = some (.slice (some ⟨g, p, none⟩) v.l.length c1) ∧ w'.cell? ⟨g, p + j * 6, none⟩ = some (.int .i64 x.k) ∧ w'.cell? ⟨g, p + j * 6 + 1, none⟩ = some (.bool x.b) ∧ w'.cell? ⟨g, p + j * 6 + 2, none⟩ = some (.int .i64 x.i) ∧ w'.cell? ⟨g, p + j * 6 + 3, none⟩ = some (.string (bs x.s)) ∧ w'.cell? ⟨g, p + j * 6 + 4, none⟩ = some (.slice B1 x.l.length e1) ∧ w'.cell? ⟨g, p + j * 6 + 5, none⟩ = some (.slice B2 x.o.length e2))
          (first | exact ⟨(hbox.out _ (grown_set HG5.out _)).1, HE.out _ (grown_set HG5.out _)⟩ | go_keep)
          (first
          | (go_at_call 18; (with_reducible refine (HI.out _ (grown_drew hb)).mono ?_); rintro e w4 ⟨cs, rfl, hvo, b4⟩; obtain ⟨_, B3, e3, B4, e4, -, rfl⟩ := hvo.open; have b5 : Below wr.heap.size wr w4 := ⟨b4.os, b4.tape, b4.output, b4.size, b4.block⟩; have hb4 := grown_below3 hb b5; have HBX4 := Lib.hid (HBX.out.keep (b5.block _ (by omega))); obtain ⟨_, _, _, _, x4, _, xf⟩ := HBX4.out; have x4a := cell_alloc_d (.cells #[.int .i64 x.k, .bool x.b, .int .i64 x.i, .string (bs x.s), .slice B3 x.l.length e3, .slice B4 x.o.length e4] 26) x4; have hlt4 : w.heap.size + 1 + 1 < w4.heap.size := (by have := b5.size; omega); obtain ⟨q4, q5⟩ := hbox.out w4 hb4; obtain ⟨a0, a1, a2, a3, a4, a5⟩ := HE.out w4 hb4; have hown4a := (own_below hown b5 (Nat.le_refl _)).alloc (.cells #[.int .i64 x.k, .bool x.b, .int .i64 x.i, .string (bs x.s), .slice B3 x.l.length e3, .slice B4 x.o.length e4] 26); have hsz4 := b5.size; have HB4 := Lib.hid hb4; have HV := Lib.hid (And.intro hvo b5); clear hvo hb4 b4 b5)
          | (refine step_append_from _ (by rfl) (.tmp 23) (.tmp 30) 23 (by rfl) w1.heap.size 26 iv _ 6 88 Tryd.underlying23 hiv hv0 hv1 hv2 rfl (by decide) out j xs (by simp [Act.eval, Act.put]) hown4a (w4.heap.size + 1) (some ⟨w4.heap.size, 0, none⟩) 1 1 [.int .i64 x.k, .bool x.b, .int .i64 x.i, .string (bs x.s), .slice B3 x.l.length e3, .slice B4 x.o.length e4] (by simp [Act.eval, Act.put]) (At.new w4 [.int .i64 x.k, .bool x.b, .int .i64 x.i, .string (bs x.s), .slice B3 x.l.length e3, .slice B4 x.o.length e4] _ 6 1 rfl) (one6 _ _ _ _ _ _ (_, _) (_, _)) (by unfold maxLen; omega) (by omega) (by simp; omega) ?_; intro v' w5 hown5 hg hat; obtain ⟨A', c', rfl, _, _, _⟩ := own_slice hown5; have HBX5 := Lib.hid (boxL (lo := w1.heap.size) (by omega) hsz0 HOB.out HV.out.2 hg HBX4.out); obtain ⟨_, _, _, _, x4, _, xf⟩ := HBX5.out; have HG5 := Lib.hid (grown_row (grown_alloc HB4.out _) hg (fun k hk => (HOB.out k hk).1)); obtain ⟨q4, q5⟩ := hbox.out w5 HG5.out; obtain ⟨a0, a1, a2, a3, a4, a5⟩ := HE.out w5 HG5.out; have HG := Lib.hid (And.intro hg hat); clear hg hat))
        all_goals
          go_wp2_with fail
          go_meet
          case rel => exact ⟨rfl, _, _, leafL hb (by omega) HR.out HT.out HOB.out HV.out.2 HV.out.1 rfl hown5 HG.out.1 HG.out.2 HBX5.out⟩
    · have hj2 : v.l.take j = v.l := List.take_of_length_le (by omega)
      have hj3 : j = v.l.length := by omega
      rw [hj2] at HR
      rw [hj3] at hown
      obtain ⟨L', d', rfl, hd', -, -⟩ := own_slice hown
      have HLO := Lib.hid (LO.of_own hown HR.out (fun _ hg => hg.none))
      obtain ⟨wm, hwm⟩ : ∃ wm, wm = wr := ⟨_, rfl⟩
      subst hwm
      have hbm := hb
      have hblt : w.heap.size + 2 < wm.heap.size := by have := hb.size; omega
      have hwm2 : w.heap.size + 2 < w1.heap.size := by omega
      clear hj2 hj3 HR hown HL HF3
      go_wp2_with fail
      go_loopw [5] (fun i wr => ∃ (j : Nat) (xs : List Value) (out : Value), j ≤ v.o.length ∧ i = .int .i64 j ∧ wr.ownsRow wm.heap.size 46 7 out j xs ∧ Hid (RowsO 7 (MO wr (Span wm.heap.size wr.heap.size out.ownBlock) n) xs (v.o.take j)) ∧
          Box6 wr (w.heap.size + 2) (.int .i64 v.k) (.bool v.b) (.int .i64 v.i) (.string (bs v.s)) (.slice L' v.l.length d') out ∧ wm.grownBy wr (some (w.heap.size + 2))) (fun i _ => v.o.length - (intOf i).toNat)
      case atStart => exact ⟨0, [], .slice none 0 0, Nat.zero_le _, rfl, World.ownsRow_nil _ _ _ _, RowsO.nil _ _, hbx, ⟨rfl, rfl, rfl, Nat.le_refl _, fun _ _ _ => rfl⟩⟩
      case round =>
        clear hbx hb q4 q5
        obtain ⟨j, xs, out, hj, rfl, hown, HR, hbx, hb⟩ := hrel
        have hbw := hbm.trans hb
        obtain ⟨q4, q5⟩ := hbox.out wr hbw
        by_cases hlt : j < v.o.length
        · obtain ⟨x, hx⟩ : ∃ x, v.o[j]? = some x := ⟨_, List.getElem?_eq_getElem hlt⟩
          have hxl : v.o[j] = x := (List.getElem?_eq_some_iff.1 hx).2
          obtain ⟨g, p, ds, hA, hgB, hr, hkl, hxi⟩ := HO.out j x hx
          obtain ⟨xk, x⟩ := x
          have HT := Lib.hid (show v.o.take (j + 1) = v.o.take j ++ [(xk, x)] by rw [List.take_succ_eq_append_getElem hlt, hxl])
          have HI := Lib.hid fun W (hW : w1.grownBy W (some (w.heap.size + 2))) => IH.out ds x W (hxi.keep (by have := hW.size; have := b1.size; omega) fun q hq => by
            have hk2 := hW.block q.block (by have := b1.size; omega) (by simp; omega)
            exact (World.cell?_of_block hk2).trans (b1.cell hq)) (HF4.out _ (List.mem_of_getElem? hx))
          obtain ⟨_, B1, e1, B2, e2, -, rfl, -⟩ := hxi.open
          have HE := Lib.hid fun W (hW : w1.grownBy W (some (w.heap.size + 2))) => range7 (w := W) (fun i u hu => (GK.out W hW g hgB (p + j * 7 + i)).trans (hr i u hu))
          have HKL := Lib.hid hkl
          subst hA
          clear hxl hx hr hxi hkl
          obtain ⟨a0, a1, a2, a3, a4, a5, a6⟩ := HE.out wr hbw
          have HBX := Lib.hid hbx
          obtain ⟨x0, x1, x2, x3, x4, x5, xf⟩ := hbx
          clear x0 x1 x2 x3 x4 xf
          have hob := hown.lt
          have HOB := Lib.hid hob
          have hsz0 := hb.size
          clear hob
          go_upto_block 3 with (fail)
          go_cut [5] (fun s wc => s = .int .i64 j ∧ ∃ (xs' : List Value) (out' : Value), wc.ownsRow wm.heap.size 46 7 out' (j + 1) xs' ∧ Hid (RowsO 7 (MO wc (Span wm.heap.size wc.heap.size out'.ownBlock) n) xs' (v.o.take (j + 1))) ∧ Box6 wc (w.heap.size + 2) (.int .i64 v.k) (.bool v.b) (.int .i64 v.i) (.string (bs v.s)) (.slice L' v.l.length d') out' ∧ wm.grownBy wc (some (w.heap.size + 2)))
          case rest =>
            clear hown HR HBX HOB hb hbw x5 HE HI q4 q5 hsz0
            obtain ⟨rfl, xs', out', hown', HR', hbx', hb'⟩ := hcut
            go_wp2
            go_roundw
            case rel => exact ⟨j + 1, xs', out', by omega, by go_num, hown', HR', hbx', hb'⟩
            case measure => simp [intOf]; omega
          case first =>
            go_wp2_with fail
            rw [show ({ dst := some 41, op := Op.load 24 (Operand.tmp 40), type := 24, pos := "ref.go:153", after := #[{ on := 0, ground := Ground.data }], guard := none } : Oper) = ld41 from rfl]
            go_region_held3 (fun w' => w'.cell? ⟨w.heap.size, 5, none⟩ = some (.slice (some ⟨g, p, none⟩) v.o.length c2) ∧ w'.cell? ⟨g, p + j * 7, none⟩ = some (.string (bs xk)) ∧ w'.cell? ⟨g, p + j * 7 + 1, none⟩ = some (.int .i64 x.k) ∧ w'.cell? ⟨g, p + j * 7 + 2, none⟩ = some (.bool x.b) ∧ w'.cell? ⟨g, p + j * 7 + 3, none⟩ = some (.int .i64 x.i) ∧ w'.cell? ⟨g, p + j * 7 + 4, none⟩ = some (.string (bs x.s)) ∧ w'.cell? ⟨g, p + j * 7 + 5, none⟩ = some (.slice B1 x.l.length e1) ∧ w'.cell? ⟨g, p + j * 7 + 6, none⟩ = some (.slice B2 x.o.length e2))
              (first | exact ⟨(hbox.out _ (hbm.trans (grown_set HG5.out _))).2, HE.out _ (hbm.trans (grown_set HG5.out _))⟩ | go_keep)
              (first
              | (go_at_call 18; (with_reducible refine (HI.out _ (grown_drew hbw)).mono ?_); rintro e w4 ⟨cs, rfl, hvo, b4⟩; obtain ⟨_, B3, e3, B4, e4, -, rfl⟩ := hvo.open; have b5 : Below wr.heap.size wr w4 := ⟨b4.os, b4.tape, b4.output, b4.size, b4.block⟩; have hb4 := grown_below3 hbw b5; have HBX4 := Lib.hid (HBX.out.keep (b5.block _ (by omega))); obtain ⟨_, _, _, _, _, x5, xf⟩ := HBX4.out; have x5a := cell_alloc_d (.cells #[.string (bs xk), .int .i64 x.k, .bool x.b, .int .i64 x.i, .string (bs x.s), .slice B3 x.l.length e3, .slice B4 x.o.length e4] 46) x5; have hlt4 : w.heap.size + 1 + 1 < w4.heap.size := (by have := b5.size; omega); obtain ⟨q4, q5⟩ := hbox.out w4 hb4; obtain ⟨a0, a1, a2, a3, a4, a5, a6⟩ := HE.out w4 hb4; have hown4a := (own_below hown b5 (Nat.le_refl _)).alloc (.cells #[.string (bs xk), .int .i64 x.k, .bool x.b, .int .i64 x.i, .string (bs x.s), .slice B3 x.l.length e3, .slice B4 x.o.length e4] 46); have hsz4 := b5.size; have HB4 := Lib.hid (grown_below3 hb b5); have HV := Lib.hid (And.intro hvo b5); clear hvo hb4 b4 b5)
              | (refine step_append_from _ (by rfl) (.tmp 41) (.tmp 56) 24 (by rfl) wm.heap.size 46 im _ 7 104 Tryd.underlying24 him hm0 hm1 hm2 rfl (by decide) out j xs (by simp [Act.eval, Act.put]) hown4a (w4.heap.size + 1) (some ⟨w4.heap.size, 0, none⟩) 1 1 [.string (bs xk), .int .i64 x.k, .bool x.b, .int .i64 x.i, .string (bs x.s), .slice B3 x.l.length e3, .slice B4 x.o.length e4] (by simp [Act.eval, Act.put]) (At.new w4 [.string (bs xk), .int .i64 x.k, .bool x.b, .int .i64 x.i, .string (bs x.s), .slice B3 x.l.length e3, .slice B4 x.o.length e4] _ 7 1 rfl) (one7 _ _ _ _ _ _ _ (_, _) (_, _)) (by unfold maxLen; omega) (by omega) (by simp; omega) ?_; intro v' w5 hown5 hg hat; obtain ⟨A', c', rfl, _, _, _⟩ := own_slice hown5; have HBX5 := Lib.hid (boxM (lo := wm.heap.size) (by omega) hsz0 HOB.out HV.out.2 hg HBX4.out); obtain ⟨_, _, _, _, _, x5, xf⟩ := HBX5.out; have HG5 := Lib.hid (grown_row (grown_alloc HB4.out _) hg (fun k hk => (HOB.out k hk).1)); obtain ⟨q4, q5⟩ := hbox.out w5 (hbm.trans HG5.out); obtain ⟨a0, a1, a2, a3, a4, a5, a6⟩ := HE.out w5 (hbm.trans HG5.out); have HG := Lib.hid (And.intro hg hat); clear hg hat))
            all_goals
              go_wp2_with fail
              go_meet
              case rel => exact ⟨rfl, _, _, leafM (m := (xk, x)) hb (by omega) HR.out HT.out HOB.out HV.out.2 ⟨_, rfl, HKL.out, HV.out.1⟩ rfl hown5 HG.out.1 HG.out.2 HBX5.out⟩
        · have hj2 : v.o.take j = v.o := List.take_of_length_le (by omega)
          have hj3 : j = v.o.length := by omega
          rw [hj2] at HR
          rw [hj3] at hown
          obtain ⟨M', m', rfl, hm', -, -⟩ := own_slice hown
          have HOO := Lib.hid (OO.of_own hown HR.out (fun _ hg => hg.none))
          obtain ⟨x0, x1, x2, x3, x4, x5, xf⟩ := hbx
          have hr6 := hres.out wr hbw
          obtain ⟨r0, r1, r2, r3, r4, r5, rf⟩ := hr6
          clear hj2 HR hown
          have zz := hbm.size
          have zz2 := hb.size
          have hn1 : ∀ g, Span w1.heap.size wm.heap.size none g → g ≠ w.heap.size + 1 := fun g hg => by have := hg.1; omega
          have hn3 : ∀ g, Span wm.heap.size wr.heap.size none g → g ≠ w.heap.size + 1 := fun g hg => by have := hg.1; omega
          have hw : w.heap.size ≤ w.heap.size + 1 := by omega
          have hbelow : Below w.heap.size w wr := ⟨hbw.os.trans b1.os, hbw.tape.trans b1.tape, hbw.output.trans b1.output, by have := hbw.size; omega, fun k hk => (hbw.block k (by omega) (by simp; omega)).trans (b1.block k hk)⟩
          have HLO2 := Lib.hid (LO.keep (S' := Span w1.heap.size wm.heap.size none) (w' := wr) (fun _ h => h) (fun p hp => grown_cellA hb p hp.2.1 (by have := hp.1; simp; omega)) HLO.out)
          have HALL := Lib.hid (And.intro hn1 (And.intro hn3 (And.intro hw hbelow)))
          clear hn1 hn3 hbelow
          go_wp2
          refine bodyPost_ret (v := .agg #[.int .i64 v.k, .bool v.b, .int .i64 v.i, .string (bs v.s), .slice L' v.l.length d', .slice M' v.o.length m']) (by simp [results, Tryd.results18, go_sem, r0, r1, r2, r3, r4, r5]) rfl ⟨[.int .i64 v.k, .bool v.b, .int .i64 v.i, .string (bs v.s), .slice L' v.l.length d', .slice M' v.o.length m'], rfl, ⟨L', d', M', m', rfl, HB.out.1, HB.out.2.1, HB.out.2.2.1, HB.out.2.2.2.1, HB.out.2.2.2.2, hd', hm', ?_, ?_⟩, ?_⟩
          · have h1 := HALL.out.1
            refine LO.keep (fun g hg => ⟨?_, ?_, hg.2.2⟩) ((((((SameAt.set (SameAt.refl _ _) h1 _).set h1 _).set h1 _).set h1 _).set h1 _).set h1 _) HLO2.out
            · have h1 : w1.heap.size ≤ g := hg.1
              omega
            · have h1 := hg.2.1
              have h2 : g < wr.heap.size := by omega
              simpa [World.setCell] using h2
          · have h1 := HALL.out.2.1
            refine OO.keep (fun g hg => ⟨?_, ?_, hg.2.2⟩) ((((((SameAt.set (SameAt.refl _ _) h1 _).set h1 _).set h1 _).set h1 _).set h1 _).set h1 _) HOO.out
            · have h1 : wm.heap.size ≤ g := hg.1
              omega
            · have h2 := hg.2.1
              simpa [World.setCell] using h2
          · have hw := HALL.out.2.2.1
            exact ((((((HALL.out.2.2.2.setCell hw _).setCell hw _).setCell hw _).setCell hw _).setCell hw _).setCell hw _)

theorem refCopy_any : ∀ n, CopyAt 18 n
  | 0 => refCopy_zero
  | n + 1 => refCopy_step n (refCopy_any n)
end Go.Proofs.YthaikagelloeoaaDoor
