/- A second key: tree.Put. -/
import Derived.Test.YtkdlfgfjahnhmaaLogTPut
namespace Go.Proofs.Ytkdlfgfjahnhmaa
open Go.RowKit
set_option linter.unusedSimpArgs false
set_option linter.unusedVariables false
set_option maxRecDepth 100000 in
set_option maxHeartbeats 4000000 in
theorem search_ab (p q b o c : Nat) (w : World) (c1 : w.cell? ⟨p, 0, none⟩ = some (.slice (some ⟨b, o, none⟩) 1 c)) (c2 : w.cell? ⟨q, 0, none⟩ = some (.string ⟨#[98]⟩)) (c3 : w.cell? ⟨b, o, none⟩ = some (.string ⟨#[97]⟩)) :
    Calls Try.prog 48 #[.int .i64 1, .func (.func 49) #[] #[.pointer (some ⟨p, 0, none⟩), .pointer (some ⟨q, 0, none⟩)]] w fun e w' => e = .returned (.int .i64 1) ∧ Dr w w' := by
  have hbl : Op.bytesLess [97] [98] = true := by decide
  go_enter Try.func48, Try.ntmps48
  go_wp2
  refine wp_loop_rounds 3 ?_
  rw [rounds_succ]
  go_wp2
  go_quiet (fail)
  go_wp2
  rw [rounds_succ]
  go_wp2
  go_ret
  exact ⟨rfl, Dr.one _ _⟩
set_option maxRecDepth 100000 in
set_option maxHeartbeats 4000000 in
theorem place_ab (A : Option Addr) (c B : Nat) (w : World) (h : At w B 7 A 1 (entsV (ks1 kA))) (hB : B ≤ w.heap.size) :
    Calls Try.prog 38 #[.slice A 1 c, .string kB] w fun e w' => e = .returned (.tuple #[.int .i64 1, .bool false]) ∧ Below w.heap.size w w' := by
  obtain ⟨b, o, rfl, hb, c0, _⟩ := ent_at (ks := ks1 kA) h (i := 0) (by decide)
  simp only [ks1, List.getElem_cons_zero, Nat.zero_mul, Nat.add_zero] at c0
  have d0 : ∀ W, Below w.heap.size w W → W.cell? ⟨b, o, none⟩ = some (.string kA) := fun W hW => (hW.cell (p := ⟨b, o, none⟩) (by show b < w.heap.size; omega)).trans c0
  have D := Lib.hid d0
  have hk : kA = ⟨#[97]⟩ := rfl
  have hk2 : kB = ⟨#[98]⟩ := rfl
  clear h d0 c0
  have hB2 : Below w.heap.size w ((w.alloc (.cells #[.slice (some ⟨b, o, none⟩) 1 c] 82)).alloc (.cells #[.string kB] 9)) := ((Below.refl _ _).alloc (Nat.le_refl _) _).alloc (by rw [zal]; omega) _
  have e0 := D.out _ hB2
  have HB := Lib.hid hB2
  rw [hk] at e0
  have g0 := heap_alloc2_old w (.cells #[.slice (some ⟨b, o, none⟩) 1 c] 82) (.cells #[.string kB] 9)
  have g1 := heap_alloc2_new w (.cells #[.slice (some ⟨b, o, none⟩) 1 c] 82) (.cells #[.string kB] 9)
  have z0 := cell_of_row _ _ 0 _ _ (0, 0) g0
  have z1 := cell_of_row _ _ 0 _ _ (0, 0) g1
  have HS := search_ab w.heap.size (w.heap.size + 1) b o c _ z0 (by rw [z1, hk2]; rfl) e0
  have HSS := Lib.hid HS
  clear hB2 HS z0 z1 g0 g1 e0 D
  generalize kB = y at *
  clear hk hk2
  go_enter Try.func38, Try.ntmps38
  go_wp2_with fail
  ((with_reducible refine HSS.out.mono ?_); rintro e w1 ⟨rfl, n, rfl⟩)
  go_wp2
  go_quiet (fail)
  go_wp2
  go_ret2
  exact ⟨rfl, Below.drewN' (Below.drewN' HB.out _) _⟩
set_option maxRecDepth 100000 in
set_option maxHeartbeats 4000000 in
theorem insert_ab (base : Nat) (A : Option Addr) (c : Nat) (A2 : Option Addr) (c2 : Nat) (w : World) (hown : w.ownsRow base 79 7 (.slice A 1 c) 1 (entsV (ks1 kA))) (hbase : base ≤ w.heap.size) (h : At w w.heap.size 7 A2 1 (entsV (ks1 kB))) :
    Calls Try.prog 39 #[.slice A 1 c, .int .i64 1, .slice A2 1 c2] w fun e w' => ∃ v, e = .returned v ∧ w'.ownsRow base 79 7 v 2 (entsV ks2) ∧ Below base w w' := by
  obtain ⟨i0, hi, hz0, hz1, hz2⟩ := info_parts' info_ent
  have h1 : ∀ u ∈ entsV (ks1 kB), u.oneCell' = true := by simpa [entsV, ks1] using one_entC kB
  obtain ⟨g, cap, hv, hbg, hlt⟩ := hown.form (by omega)
  injection hv with hA _ hc
  subst hA hc
  have hc1 : 1 ≤ c := by
    rcases hown.2 with ⟨e, _⟩ | ⟨g', cap', cur, e, _, _, h1, _⟩
    · cases e
    · injection e with _ _ e; omega
  have he : entsV ks2 = entsV (ks1 kA) ++ entsV (ks1 kB) := by simp [entsV, ks1, ks2]
  rw [he]
  by_cases hcc : c = 1
  · subst hcc
    go_enter Try.func39, Try.ntmps39
    go_wp2_with (at_builtin; (refine wpList_append_from _ rfl (.tmp 23) (.tmp 24) 82 rfl base 79 i0 _ 7 104 Try.underlying82 hi hz0 hz1 hz2 rfl (by decide) _ 1 (entsV (ks1 kA)) rfl hown w.heap.size A2 1 c2 (entsV (ks1 kB)) rfl h h1 (by unfold maxLen; omega) (by omega) hbase ?_); intro v3 w3 hown3 hg3 _)
    have hb : Below base w w3 := grown_below hown hg3 hbase
    clear hown h h1
    go_wp2
    go_ret
    exact ⟨_, rfl, hown3, hb⟩
  · go_enter Try.func39, Try.ntmps39
    go_wp2_with (at_builtin; (refine wpList_append_from _ rfl (.tmp 23) (.tmp 24) 82 rfl base 79 i0 _ 7 104 Try.underlying82 hi hz0 hz1 hz2 rfl (by decide) _ 1 (entsV (ks1 kA)) rfl hown w.heap.size A2 1 c2 (entsV (ks1 kB)) rfl h h1 (by unfold maxLen; omega) (by omega) hbase ?_); intro v3 w3 hown3 hg3 _)
    have hb : Below base w w3 := grown_below hown hg3 hbase
    clear hown h h1
    go_wp2
    go_ret
    exact ⟨_, rfl, hown3, hb⟩
set_option maxRecDepth 100000 in
set_option maxHeartbeats 4000000 in
theorem put_second (w : World) {lo g : Nat} (h : NodeIs w lo g (ks1 kA)) : Calls Try.prog 34 #[.pointer (some ⟨g, 0, none⟩), entV kB] w (NodeMade2 w ks2) := by
  have HH := Lib.hid fun V (hV : Below w.heap.size w V) => height_leaf (h.then hV)
  have HE := Lib.hid fun V (hV : Below w.heap.size w V) => entries_leaf (h.then hV) (by simp)
  obtain ⟨k, hk⟩ : ∃ k, kB = k := ⟨_, rfl⟩
  have HK := Lib.hid hk
  rw [hk]
  unfold entV
  have hk0 : entsV (ks1 k) = entC k := by simp [entsV, ks1]
  have g0 := heap_alloc_new w (.cells #[.string k, .int .i64 3, .bool false, .int .i64 1, .string ⟨#[]⟩, .slice none 0 0, .slice none 0 0] 79)
  obtain ⟨W, hW⟩ : ∃ W, w.alloc (.cells #[.string k, .int .i64 3, .bool false, .int .i64 1, .string ⟨#[]⟩, .slice none 0 0, .slice none 0 0] 79) = W := ⟨_, rfl⟩
  rw [hW] at g0
  have hB : Below w.heap.size w W := by rw [← hW]; exact (Below.refl _ w).alloc (Nat.le_refl _) _
  have G0 := Lib.hid g0
  have HW := Lib.hid hW
  have HB := Lib.hid hB
  have hz : w.heap.size < W.heap.size := by rw [← hW, zal]; omega
  have HZ := Lib.hid hz
  clear hW hB g0 hz h hk
  go_enter Try.func34, Try.ntmps34
  go_wp2_with fail
  rw [HW.out]
  ((with_reducible refine (HH.out _ HB.out).mono ?_); rintro e w1 ⟨rfl, rfl⟩)
  go_wp2_with fail
  ((refine (HE.out _ HB.out).mono ?_); rintro e w1 ⟨v, rfl, hown, b1⟩)
  obtain ⟨A, c, rfl, hnc, _, hat⟩ := own_slice hown
  have k1 := HB.out.trans (b1.mono HB.out.size)
  obtain ⟨⟨a0, a1, a2, a3, a4, a5, a6⟩, _⟩ := row7 ((b1.block w.heap.size HZ.out).trans G0.out)
  have HP := Lib.hid (place_ab A c w1.heap.size w1 hat (Nat.le_refl _))
  rw [HK.out] at HP
  have HO := Lib.hid hown
  have HRow := Lib.hid ((b1.block w.heap.size HZ.out).trans G0.out)
  clear hat hown
  go_wp2_with fail
  ((with_reducible refine HP.out.mono ?_); rintro e w2 ⟨rfl, b2⟩)
  have k2 := bthen k1 b2
  obtain ⟨⟨d0, d1, d2, d3, d4, d5, d6⟩, _⟩ := row7 ((b2.block w.heap.size (Nat.lt_of_lt_of_le HZ.out b1.size)).trans HRow.out)
  have O2 := Lib.hid (own_below HO.out b2 (Nat.le_refl _))
  clear a0 a1 a2 a3 a4 a5 a6
  go_wp2_with fail
  obtain ⟨W2, hW2⟩ : ∃ W2, w2.alloc (.cells #[.string k, .int .i64 3, .bool false, .int .i64 1, .string ⟨#[]⟩, .slice none 0 0, .slice none 0 0] 79) = W2 := ⟨_, rfl⟩
  have hat : At W2 W2.heap.size 7 (some ⟨w2.heap.size, 0, none⟩) 1 (entsV (ks1 kB)) := by
    rw [HK.out, hk0, ← hW2]
    exact (At.new w2 (entC k) 79 7 1 rfl).more (by rw [zal]; omega)
  have O3 := own_base (O2.out.alloc (.cells #[.string k, .int .i64 3, .bool false, .int .i64 1, .string ⟨#[]⟩, .slice none 0 0, .slice none 0 0] 79)) (base' := w.heap.size) HB.out.size
  have k3 : Below w.heap.size w W2 := by rw [← hW2]; exact k2.alloc k2.size _
  rw [hW2] at O3
  rw [hW2]
  refine (insert_ab w.heap.size A c _ 1 W2 O3 k3.size hat).mono ?_
  rintro e w3 ⟨v, rfl, hown3, b3⟩
  obtain ⟨A3, c3, rfl, _, _, hat3⟩ := own_slice hown3
  have k4 := k3.trans b3
  clear hown3 hat d0 d1 d2 d3 d4 d5 d6 O3
  go_wp2_with fail
  refine (halves_ab k A3 c3 w3.heap.size w3 hat3 (Nat.le_refl _)).mono ?_
  rintro e w4 ⟨g4, rfl, hN, b4⟩
  have k5 := bthen k4 b4
  go_wp2
  go_ret2
  exact ⟨g4, rfl, hN.mono k4.size, k5⟩
set_option maxRecDepth 100000 in
set_option maxHeartbeats 4000000 in
theorem tput_of (p : Option Addr) (k : ByteArray) (ks : List ByteArray) (w : World) (hP : ∀ V, Below w.heap.size w V → Calls Try.prog 34 #[.pointer p, entV k] V (NodeMade2 V ks)) : Calls Try.prog 25 #[treeV p, .string k, oneV] w (TreeMade w ks) := by
  have HP := Lib.hid hP
  clear hP
  unfold entV at HP
  unfold treeV oneV
  go_enter Try.func25, Try.ntmps25
  go_wp2_with fail
  obtain ⟨W, hW⟩ : ∃ W, ((w.alloc (.cells #[.pointer p, .nilFunc] 40)).alloc (.cells #[.int .i64 3, .bool false, .int .i64 1, .string ⟨#[]⟩, .slice none 0 0, .slice none 0 0] 69)).alloc (.cells #[.pointer none, .nilFunc] 40) = W := ⟨_, rfl⟩
  rw [hW]
  have hB : Below w.heap.size w W := by rw [← hW]; exact (((Below.refl _ w).alloc (Nat.le_refl _) _).alloc (by rw [zal]; omega) _).alloc (by rw [zal, zal]; omega) _
  have hz : W.heap.size = w.heap.size + 3 := by rw [← hW]; simp
  have gR : W.heap[w.heap.size + 1 + 1]? = some (.cells #[.pointer none, .nilFunc] 40 (0, 0)) := by
    have := heap_alloc_new ((w.alloc (.cells #[.pointer p, .nilFunc] 40)).alloc (.cells #[.int .i64 3, .bool false, .int .i64 1, .string ⟨#[]⟩, .slice none 0 0, .slice none 0 0] 69)) (.cells #[.pointer none, .nilFunc] 40)
    rw [hW, zal, zal] at this
    exact this
  clear hW
  ((with_reducible refine (HP.out _ hB).mono ?_); rintro e w1 ⟨g, rfl, hN, b1⟩)
  have hR := (b1.block _ (by omega)).trans gR
  have k1 := hB.trans (b1.mono hB.size)
  have a0 : w1.cell? ⟨w.heap.size + 1 + 1, 0, none⟩ = some (.pointer none) := by rw [cell_of_row _ _ 0 _ _ (0, 0) hR]; rfl
  have a1 : w1.cell? ⟨w.heap.size + 1 + 1, 1, none⟩ = some .nilFunc := by rw [cell_of_row _ _ 1 _ _ (0, 0) hR]; rfl
  have f0 := frozen_of_row _ _ 0 _ _ hR
  have f1 := frozen_of_row _ _ 1 _ _ hR
  have a1' : (w1.setCell ⟨w.heap.size + 1 + 1, 0, none⟩ (.pointer (some ⟨g, 0, none⟩))).cell? ⟨w.heap.size + 1 + 1, 1, none⟩ = some .nilFunc := by rw [World.cell?_setCell_other _ _ _ _ (fun h => by injection h with _ h; omega)]; exact a1
  have y0 : ((w1.setCell ⟨w.heap.size + 1 + 1, 0, none⟩ (.pointer (some ⟨g, 0, none⟩))).setCell ⟨w.heap.size + 1 + 1, 1, none⟩ .nilFunc).cell? ⟨w.heap.size + 1 + 1, 0, none⟩ = some (.pointer (some ⟨g, 0, none⟩)) := by
    rw [World.cell?_setCell_other _ _ _ _ (fun h => by injection h with _ h; omega)]
    exact World.cell?_setCell_same' _ _ _ (by rw [a0]; rfl)
  have y1 : ((w1.setCell ⟨w.heap.size + 1 + 1, 0, none⟩ (.pointer (some ⟨g, 0, none⟩))).setCell ⟨w.heap.size + 1 + 1, 1, none⟩ .nilFunc).cell? ⟨w.heap.size + 1 + 1, 1, none⟩ = some .nilFunc := World.cell?_setCell_same' _ _ _ (by rw [a1']; rfl)
  have HN : Hid (NodeIs ((w1.setCell ⟨w.heap.size + 1 + 1, 0, none⟩ (.pointer (some ⟨g, 0, none⟩))).setCell ⟨w.heap.size + 1 + 1, 1, none⟩ .nilFunc) w.heap.size g ks) := ((hN.set (by omega) _).set (by omega) _).mono (by omega)
  have HB : Hid (Below w.heap.size w ((w1.setCell ⟨w.heap.size + 1 + 1, 0, none⟩ (.pointer (some ⟨g, 0, none⟩))).setCell ⟨w.heap.size + 1 + 1, 1, none⟩ .nilFunc)) := (k1.setCell (p := ⟨w.heap.size + 1 + 1, 0, none⟩) (by show w.heap.size ≤ w.heap.size + 1 + 1; omega) _).setCell (p := ⟨w.heap.size + 1 + 1, 1, none⟩) (by show w.heap.size ≤ w.heap.size + 1 + 1; omega) _
  clear hR k1 hN hB gR hz b1
  go_wp2
  refine bodyPost_ret (v := treeV (some ⟨g, 0, none⟩)) (by simp [results, Try.results25, go_sem, y0, y1, treeV]) rfl ⟨g, rfl, HN.out, HB.out⟩
theorem tput_first (k : ByteArray) (w : World) : Calls Try.prog 25 #[treeV none, .string k, oneV] w (TreeMade w (ks1 k)) := tput_of none k (ks1 k) w fun V _ => put_nil k V
theorem tput_second (w : World) {lo g : Nat} (h : NodeIs w lo g (ks1 kA)) : Calls Try.prog 25 #[treeV (some ⟨g, 0, none⟩), .string kB, oneV] w (TreeMade w ks2) := tput_of _ kB ks2 w fun V hV => put_second V (h.then hV)
end Go.Proofs.Ytkdlfgfjahnhmaa
