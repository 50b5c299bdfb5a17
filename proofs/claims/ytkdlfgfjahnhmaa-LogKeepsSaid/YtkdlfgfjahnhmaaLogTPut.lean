/- A tree of one key, and of two: tree.Put. -/
import Derived.Test.YtkdlfgfjahnhmaaLogLeaf
namespace Go.Proofs.Ytkdlfgfjahnhmaa
open Go.RowKit
set_option linter.unusedSimpArgs false
set_option linter.unusedVariables false
def NodeMade (w : World) (ks : List ByteArray) (e : Ending) (w' : World) : Prop := ∃ g, e = .returned (.pointer (some ⟨g, 0, none⟩)) ∧ NodeIs w' w.heap.size g ks ∧ Below w.heap.size w w'
def NodeMade2 (w : World) (ks : List ByteArray) (e : Ending) (w' : World) : Prop := ∃ g, e = .returned (.tuple #[.pointer (some ⟨g, 0, none⟩), .pointer none]) ∧ NodeIs w' w.heap.size g ks ∧ Below w.heap.size w w'
set_option maxRecDepth 100000 in
set_option maxHeartbeats 4000000 in
theorem tleaf_one (k : ByteArray) (A : Option Addr) (c B : Nat) (w : World) (h : At w B 7 A 1 (entsV (ks1 k))) (hB : B ≤ w.heap.size) :
    Calls Try.prog 41 #[.slice A 1 c] w (NodeMade w (ks1 k)) := by
  have HL := Lib.hid (leaf_one k A c B w h hB)
  clear h
  go_enter Try.func41, Try.ntmps41
  go_wp2_with fail
  ((refine HL.out.mono ?_); rintro e w1 ⟨g, rfl, hN, b1⟩)
  go_wp2
  go_ret
  exact ⟨g, rfl, hN, b1⟩
set_option maxRecDepth 100000 in
set_option maxHeartbeats 4000000 in
theorem halves_one (k : ByteArray) (A : Option Addr) (c B : Nat) (w : World) (h : At w B 7 A 1 (entsV (ks1 k))) (hB : B ≤ w.heap.size) :
    Calls Try.prog 40 #[.slice A 1 c, .func (.func 41) #[] #[]] w (NodeMade2 w (ks1 k)) := by
  have HL := Lib.hid (tleaf_one k A c B w h hB)
  clear h
  go_enter Try.func40, Try.ntmps40
  go_wp2_with fail
  ((refine HL.out.mono ?_); rintro e w1 ⟨g, rfl, hN, b1⟩)
  go_wp2
  go_ret2
  exact ⟨g, rfl, hN, b1⟩
set_option maxRecDepth 100000 in
set_option maxHeartbeats 4000000 in
theorem tleaf_ab (k : ByteArray) (A : Option Addr) (c B : Nat) (w : World) (h : At w B 7 A 2 (entsV ks2)) (hB : B ≤ w.heap.size) :
    Calls Try.prog 41 #[.slice A 2 c] w (NodeMade w ks2) := by
  have HL := Lib.hid (leaf_ab k A c B w h hB)
  clear h
  go_enter Try.func41, Try.ntmps41
  go_wp2_with fail
  ((refine HL.out.mono ?_); rintro e w1 ⟨g, rfl, hN, b1⟩)
  go_wp2
  go_ret
  exact ⟨g, rfl, hN, b1⟩
set_option maxRecDepth 100000 in
set_option maxHeartbeats 4000000 in
theorem halves_ab (k : ByteArray) (A : Option Addr) (c B : Nat) (w : World) (h : At w B 7 A 2 (entsV ks2)) (hB : B ≤ w.heap.size) :
    Calls Try.prog 40 #[.slice A 2 c, .func (.func 41) #[] #[]] w (NodeMade2 w ks2) := by
  have HL := Lib.hid (tleaf_ab k A c B w h hB)
  clear h
  go_enter Try.func40, Try.ntmps40
  go_wp2_with fail
  ((refine HL.out.mono ?_); rintro e w1 ⟨g, rfl, hN, b1⟩)
  go_wp2
  go_ret2
  exact ⟨g, rfl, hN, b1⟩
set_option maxRecDepth 100000 in
set_option maxHeartbeats 4000000 in
theorem place_none (k : ByteArray) (w : World) : Calls Try.prog 38 #[.slice none 0 0, .string k] w fun e w' => e = .returned (.tuple #[.int .i64 0, .bool false]) ∧ Below w.heap.size w w' := by
  go_enter Try.func38, Try.ntmps38
  go_wp2
  refine wp_loop_rounds 2 ?_
  rw [rounds_succ]
  go_wp2
  go_quiet (fail)
  go_wp2
  go_ret2
  exact ⟨rfl, Below.drewN' (((Below.refl _ _).alloc (Nat.le_refl _) _).alloc (by rw [zal]; omega) _) _⟩
set_option maxRecDepth 100000 in
set_option maxHeartbeats 4000000 in
theorem insert_none (k : ByteArray) (A : Option Addr) (c B : Nat) (w : World) (h : At w B 7 A 1 (entsV (ks1 k))) (hB : B ≤ w.heap.size) :
    Calls Try.prog 39 #[.slice none 0 0, .int .i64 0, .slice A 1 c] w (MadeE w (ks1 k)) := by
  obtain ⟨i0, hi, hz0, hz1, hz2⟩ := info_parts' info_ent
  have h1 : ∀ u ∈ entsV (ks1 k), u.oneCell' = true := by simpa [entsV, ks1] using one_entC k
  go_enter Try.func39, Try.ntmps39
  go_wp2_with (at_builtin; (refine wpList_append_from _ rfl (.tmp 23) (.tmp 24) 82 rfl w.heap.size 79 i0 _ 7 104 Try.underlying82 hi hz0 hz1 hz2 rfl (by decide) (.slice none 0 0) 0 [] rfl (World.ownsRow_nil _ _ _ _) B A 1 c (entsV (ks1 k)) rfl h h1 (by unfold maxLen; omega) (by omega) (Nat.le_refl _) ?_); intro v3 w3 hown3 hg3 _)
  have hb : Below w.heap.size w w3 := grown_below (World.ownsRow_nil w w.heap.size 79 7) hg3 (Nat.le_refl _)
  simp only [Nat.zero_add, List.nil_append] at hown3
  clear h h1
  go_wp2
  go_ret
  exact ⟨_, rfl, hown3, hb⟩
theorem height_nil (w : World) : Calls Try.prog 36 #[.pointer none] w fun e w' => e = .returned (.int .i64 0) ∧ w = w' := by
  go_enter Try.func36, Try.ntmps36
  go_wp2
  go_ret
  exact ⟨rfl, rfl⟩
theorem entries_nil (w : World) : Calls Try.prog 37 #[.pointer none] w fun e w' => e = .returned (.slice none 0 0) ∧ w = w' := by
  go_enter Try.func37, Try.ntmps37
  go_wp2
  go_ret
  exact ⟨rfl, rfl⟩
theorem NodeIs.cells {W : World} {lo g : Nat} {ks : List ByteArray} (h : NodeIs W lo g ks) : ∃ A c, W.cell? ⟨g, 0, none⟩ = some (.slice A ks.length c) ∧ W.cell? ⟨g, 2, none⟩ = some (.int .i64 0) ∧ At W W.heap.size 7 A ks.length (entsV ks) := by
  obtain ⟨A, c, _, _, hh, hat⟩ := h
  exact ⟨A, c, by rw [cell_of_row _ _ 0 _ _ (0, 0) hh]; rfl, by rw [cell_of_row _ _ 2 _ _ (0, 0) hh]; rfl, hat⟩
theorem NodeIs.then {W W' : World} {lo g : Nat} {ks : List ByteArray} (h : NodeIs W lo g ks) (hb : Below W.heap.size W W') : NodeIs W' lo g ks := by
  obtain ⟨A, c, l1, l2, hh, hat⟩ := h
  exact ⟨A, c, l1, l2, (hb.block g (Array.getElem?_eq_some_iff.1 hh).1).trans hh, hat.then hb⟩
theorem NodeIs.mono {W : World} {lo lo' g : Nat} {ks : List ByteArray} (h : NodeIs W lo g ks) (hl : lo' ≤ lo) : NodeIs W lo' g ks := by
  obtain ⟨A, c, l1, l2, hh, hat⟩ := h
  exact ⟨A, c, by omega, fun b o s e => Nat.le_trans hl (l2 b o s e), hh, hat⟩
theorem NodeIs.set {W : World} {lo g b i : Nat} {ks : List ByteArray} (h : NodeIs W lo g ks) (hb : b < lo) (v : Value) : NodeIs (W.setCell ⟨b, i, none⟩ v) lo g ks := by
  obtain ⟨A, c, l1, l2, hh, h1, h2⟩ := h
  refine ⟨A, c, l1, l2, by rw [heap_setCell_other _ _ g _ (by show g ≠ b; omega)]; exact hh, h1, fun hn => ?_⟩
  obtain ⟨b', o', e, hlt, hr⟩ := h2 hn
  have := l2 b' o' none e
  refine ⟨b', o', e, by simpa [World.setCell] using hlt, fun j u hu => ?_⟩
  rw [World.cell?_setCell_other _ _ _ _ (fun h => by injection h; omega)]
  exact hr j u hu
theorem height_leaf {w : World} {lo g : Nat} {ks : List ByteArray} (h : NodeIs w lo g ks) : Calls Try.prog 36 #[.pointer (some ⟨g, 0, none⟩)] w fun e w' => e = .returned (.int .i64 0) ∧ w = w' := by
  obtain ⟨A, c, c0, c2, _⟩ := h.cells
  clear h
  go_enter Try.func36, Try.ntmps36
  go_wp2
  go_ret
  exact ⟨rfl, rfl⟩
theorem entries_leaf {w : World} {lo g : Nat} {ks : List ByteArray} (h : NodeIs w lo g ks) (hk : ks.length ≤ 100) : Calls Try.prog 37 #[.pointer (some ⟨g, 0, none⟩)] w (MadeE w ks) := by
  obtain ⟨A, c, c0, c2, hat⟩ := h.cells
  have HC := Lib.hid (copies_any A c w.heap.size ks w hat (Nat.le_refl _) hk)
  clear h hat
  go_enter Try.func37, Try.ntmps37
  go_wp2_with fail
  ((refine HC.out.mono ?_); rintro e w1 ⟨v, rfl, hown, b1⟩)
  go_wp2
  go_ret
  exact ⟨v, rfl, hown, b1⟩
set_option maxRecDepth 100000 in
set_option maxHeartbeats 4000000 in
theorem put_nil (k : ByteArray) (w : World) : Calls Try.prog 34 #[.pointer none, entV k] w (NodeMade2 w (ks1 k)) := by
  unfold entV
  have HP := Lib.hid (place_none k)
  have HH := Lib.hid height_nil
  have HE := Lib.hid entries_nil
  have hk0 : entsV (ks1 k) = entC k := by simp [entsV, ks1]
  have g0 := heap_alloc_new w (.cells #[.string k, .int .i64 3, .bool false, .int .i64 1, .string ⟨#[]⟩, .slice none 0 0, .slice none 0 0] 79)
  obtain ⟨W, hW⟩ : ∃ W, w.alloc (.cells #[.string k, .int .i64 3, .bool false, .int .i64 1, .string ⟨#[]⟩, .slice none 0 0, .slice none 0 0] 79) = W := ⟨_, rfl⟩
  rw [hW] at g0
  have hB : Below w.heap.size w W := by rw [← hW]; exact (Below.refl _ w).alloc (Nat.le_refl _) _
  obtain ⟨⟨a0, a1, a2, a3, a4, a5, a6⟩, _⟩ := row7 g0
  have G0 := Lib.hid g0
  have HW := Lib.hid hW
  have HB := Lib.hid hB
  have hz : w.heap.size < W.heap.size := by rw [← hW, zal]; omega
  have HZ := Lib.hid hz
  clear hW hB g0 hz
  go_enter Try.func34, Try.ntmps34
  go_wp2_with fail
  ((with_reducible refine (HH.out _).mono ?_); rintro e w1 ⟨rfl, rfl⟩)
  go_wp2_with fail
  ((with_reducible refine (HE.out _).mono ?_); rintro e w1 ⟨rfl, rfl⟩)
  rw [HW.out]
  go_wp2_with fail
  ((with_reducible refine (HP.out _).mono ?_); rintro e w1 ⟨rfl, b1⟩)
  obtain ⟨⟨d0, d1, d2, d3, d4, d5, d6⟩, _⟩ := row7 ((b1.block w.heap.size HZ.out).trans G0.out)
  clear a0 a1 a2 a3 a4 a5 a6
  go_wp2_with fail
  have k1 := HB.out.trans (b1.mono HB.out.size)
  obtain ⟨W2, hW2⟩ : ∃ W2, w1.alloc (.cells #[.string k, .int .i64 3, .bool false, .int .i64 1, .string ⟨#[]⟩, .slice none 0 0, .slice none 0 0] 79) = W2 := ⟨_, rfl⟩
  have hat : At W2 W2.heap.size 7 (some ⟨w1.heap.size, 0, none⟩) 1 (entsV (ks1 k)) := by
    rw [hk0, ← hW2]
    exact (At.new w1 (entC k) 79 7 1 rfl).more (by rw [zal]; omega)
  have k2 : Below w.heap.size w W2 := by rw [← hW2]; exact k1.alloc k1.size _
  rw [hW2]
  refine (insert_none k _ 1 W2.heap.size W2 hat (Nat.le_refl _)).mono ?_
  rintro e w3 ⟨v, rfl, hown, b3⟩
  obtain ⟨A3, c3, rfl, _, _, hat3⟩ := own_slice hown
  have k3 := bthen k2 b3
  clear hown hat d0 d1 d2 d3 d4 d5 d6
  go_wp2_with fail
  refine (halves_one k A3 c3 w3.heap.size w3 hat3 (Nat.le_refl _)).mono ?_
  rintro e w4 ⟨g, rfl, hN, b4⟩
  have k4 := bthen k3 b4
  go_wp2
  go_ret2
  exact ⟨g, rfl, hN.mono k3.size, k4⟩
/-- A call answers a tree of these keys. -/
def TreeMade (w : World) (ks : List ByteArray) (e : Ending) (w' : World) : Prop := ∃ g, e = .returned (treeV (some ⟨g, 0, none⟩)) ∧ NodeIs w' w.heap.size g ks ∧ Below w.heap.size w w'
end Go.Proofs.Ytkdlfgfjahnhmaa
