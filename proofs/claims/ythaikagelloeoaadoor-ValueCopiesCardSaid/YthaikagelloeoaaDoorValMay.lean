import Derived.Test.YthaikagelloeoaaDoorValBare
namespace Go.Proofs.YthaikagelloeoaaDoor
open Go.RowKit Val

theorem info_val : (Tryd.prog.info? 26).map (·.size) = some 6 := by kernel_rfl
theorem info_mem : (Tryd.prog.info? 46).map (·.size) = some 7 := by kernel_rfl

/-- The six cells of a value that reads so, written out. -/
theorem VIn.open {w : World} {B n : Nat} {cs : List Value} {v : Val} (h : VIn w B n cs v) : ∃ m A1 c1 A2 c2, n = m + 1 ∧
      cs = [.int .i64 v.k, .bool v.b, .int .i64 v.i, .string (bs v.s), .slice A1 v.l.length c1, .slice A2 v.o.length c2] ∧
      I64 v.k ∧ I64 v.i ∧ v.s.length ≤ 140737488351232 ∧ v.l.length ≤ 140737488351232 ∧ v.o.length ≤ 140737488351232 ∧ v.l.length ≤ c1 ∧ v.o.length ≤ c2 ∧
      (∀ (j : Nat) (x : Val), v.l[j]? = some x → ∃ g p ds, A1 = some ⟨g, p, none⟩ ∧ g < B ∧ w.rangeAt g (p + j * 6) ds ∧ VIn w B m ds x) ∧
      (∀ (j : Nat) (m' : List UInt8 × Val), v.o[j]? = some m' → ∃ g p ds, A2 = some ⟨g, p, none⟩ ∧ g < B ∧ w.rangeAt g (p + j * 7) (.string (bs m'.1) :: ds) ∧ m'.1.length ≤ 140737488351232 ∧ VIn w B m ds m'.2) := by
  cases n with
  | zero => exact absurd h (by simp [VIn])
  | succ m =>
    obtain ⟨A1, c1, A2, c2, h⟩ := h
    exact ⟨m, A1, c1, A2, c2, rfl, h⟩
/-- A box of a value, behind what came. -/
theorem box6 {w w1 : World} {a b c d e f : Value} {t : TypeId} (hb : Below (w.heap.size + 1) (w.alloc (.cells #[a, b, c, d, e, f] t)) w1) :
    w1.cell? ⟨w.heap.size, 0, none⟩ = some a ∧ w1.cell? ⟨w.heap.size, 1, none⟩ = some b ∧ w1.cell? ⟨w.heap.size, 2, none⟩ = some c ∧ w1.cell? ⟨w.heap.size, 3, none⟩ = some d ∧ w1.cell? ⟨w.heap.size, 4, none⟩ = some e ∧ w1.cell? ⟨w.heap.size, 5, none⟩ = some f := by
  have h : w1.heap[w.heap.size]? = some (.cells #[a, b, c, d, e, f] t (0, 0)) := (hb.block w.heap.size (by simp)).trans (heap_alloc_new w _)
  exact ⟨by rw [cell_of_row _ _ 0 _ t (0, 0) h]; rfl, by rw [cell_of_row _ _ 1 _ t (0, 0) h]; rfl, by rw [cell_of_row _ _ 2 _ t (0, 0) h]; rfl, by rw [cell_of_row _ _ 3 _ t (0, 0) h]; rfl, by rw [cell_of_row _ _ 4 _ t (0, 0) h]; rfl, by rw [cell_of_row _ _ 5 _ t (0, 0) h]; rfl⟩
theorem box7 {w w1 : World} {a b c d e f g : Value} {t : TypeId} (hb : Below (w.alloc (.cells #[a, b, c, d, e, f, g] t)).heap.size (w.alloc (.cells #[a, b, c, d, e, f, g] t)) w1) :
    w1.cell? ⟨w.heap.size, 0, none⟩ = some a ∧ w1.cell? ⟨w.heap.size, 1, none⟩ = some b ∧ w1.cell? ⟨w.heap.size, 2, none⟩ = some c ∧ w1.cell? ⟨w.heap.size, 3, none⟩ = some d ∧ w1.cell? ⟨w.heap.size, 4, none⟩ = some e ∧ w1.cell? ⟨w.heap.size, 5, none⟩ = some f ∧ w1.cell? ⟨w.heap.size, 6, none⟩ = some g := by
  have h : w1.heap[w.heap.size]? = some (.cells #[a, b, c, d, e, f, g] t (0, 0)) := (hb.block w.heap.size (by simp)).trans (heap_alloc_new w _)
  exact ⟨by rw [cell_of_row _ _ 0 _ t (0, 0) h]; rfl, by rw [cell_of_row _ _ 1 _ t (0, 0) h]; rfl, by rw [cell_of_row _ _ 2 _ t (0, 0) h]; rfl, by rw [cell_of_row _ _ 3 _ t (0, 0) h]; rfl, by rw [cell_of_row _ _ 4 _ t (0, 0) h]; rfl, by rw [cell_of_row _ _ 5 _ t (0, 0) h]; rfl, by rw [cell_of_row _ _ 6 _ t (0, 0) h]; rfl⟩
theorem firstE_drop {α : Type} (f : α → Nat) (l : List α) (j : Nat) (x : α) (h : l[j]? = some x) : firstE f (l.drop j) = if f x ≠ 0 then f x else firstE f (l.drop (j + 1)) := by
  have hj := (List.getElem?_eq_some_iff.1 h).1
  rw [List.drop_eq_getElem_cons hj]
  have : l[j] = x := (List.getElem?_eq_some_iff.1 h).2
  rw [this]
  rfl
theorem firstE_end {α : Type} (f : α → Nat) (l : List α) (j : Nat) (h : l.length ≤ j) : firstE f (l.drop j) = 0 := by rw [List.drop_eq_nil_of_le h]; rfl

/-- The key ahead of a member. -/
def prevK {α : Type} (l : List (List UInt8 × α)) (j : Nat) : Option (List UInt8) := if j = 0 then none else (l[j - 1]?).map (·.1)
def notAbove (p : Option (List UInt8)) (k : List UInt8) : Bool := match p with | none => false | some q => !(Op.bytesLess q k)
theorem objE_drop {α : Type} (f : α → Nat) (l : List (List UInt8 × α)) (j : Nat) (m : List UInt8 × α) (h : l[j]? = some m) :
    objE f (prevK l j) (l.drop j) = if Lib.validD m.1 = false then 3 else if notAbove (prevK l j) m.1 = true then 8 else if f m.2 ≠ 0 then f m.2 else objE f (prevK l (j + 1)) (l.drop (j + 1)) := by
  have hj := (List.getElem?_eq_some_iff.1 h).1
  have e : l[j] = m := (List.getElem?_eq_some_iff.1 h).2
  have e2 : prevK l (j + 1) = some m.1 := by unfold prevK; rw [if_neg (by omega), show j + 1 - 1 = j by omega, h]; rfl
  rw [List.drop_eq_getElem_cons hj, e, e2]
  rfl
theorem objE_end {α : Type} (f : α → Nat) (p : Option (List UInt8)) (l : List (List UInt8 × α)) (j : Nat) (h : l.length ≤ j) : objE f p (l.drop j) = 0 := by rw [List.drop_eq_nil_of_le h]; cases p <;> rfl

set_option maxRecDepth 100000 in
set_option maxHeartbeats 4000000 in
theorem may_any' : ∀ (n : Nat) (cs : List Value) (v : Val) (d : Int) (w : World), VIn w w.heap.size n cs v → Tabs w → 0 ≤ d → d ≤ 65 →
    Calls Tryd.prog 31 #[.agg cs.toArray, .int .i64 d] w fun e w' => e = .returned (.int .i64 (may n v d.toNat : Nat)) ∧ Below w.heap.size w w' := by
  intro n
  induction n with
  | zero => intro cs v d w h; exact absurd h (by simp [VIn])
  | succ n ih =>
    intro cs v d w hv hT hd0 hd
    obtain ⟨m, A1, c1, A2, c2, e, rfl, hk, hi, hs, hl, ho, hc1, hc2, hL, hO⟩ := hv.open
    obtain rfl : n = m := by omega
    have IH := Lib.hid ih
    obtain ⟨M, hM⟩ : ∃ M, M = may (n + 1) v d.toNat := ⟨_, rfl⟩
    rw [← hM]
    have hbare : v.bare = bareB v.k v.b v.i (bs v.s).size v.l.length v.o.length := by rw [bs_size]; rfl
    have hd1 : (d + 1).toNat = d.toNat + 1 := by omega
    rw [may, ← hd1] at hM
    obtain ⟨f, hf⟩ : ∃ f : Val → Nat, f = fun w => may n w (d + 1).toNat := ⟨_, rfl⟩
    rw [← hf] at hM
    have HF : Hid (∀ x, f x = may n x (d + 1).toNat) := fun x => by rw [hf]
    have hd64 : (64 < d.toNat) ↔ (64 < d) := by omega
    simp only [hd64] at hM
    have HV : Hid (∀ W, Tabs W → Calls Tryd.prog 54 #[.string (bs v.s)] W fun e w' => e = .returned (.bool (Lib.validD v.s)) ∧ Below W.heap.size W w') := fun W hW => by
      have := utfValid_any (bs v.s) W (by rw [bs_size]; omega) hW
      rw [bs_data] at this
      exact this
    have cb := fun W => bare_any v.k v.i v.b (bs v.s) A1 A2 v.l.length c1 v.o.length c2 W
    rw [← hbare] at cb
    have HB := Lib.hid cb
    obtain ⟨w1, hw1⟩ : ∃ w1, w.alloc (.cells #[.int .i64 v.k, .bool v.b, .int .i64 v.i, .string (bs v.s), .slice A1 v.l.length c1, .slice A2 v.o.length c2] 26) = w1 := ⟨_, rfl⟩
    have b1 : Below w.heap.size w w1 := by rw [← hw1]; exact (Below.refl _ w).alloc (Nat.le_refl _) _
    have z1 : w1.heap.size = w.heap.size + 1 := by rw [← hw1]; exact World.size_alloc _ _
    have hbox : Hid (∀ W, Below (w.heap.size + 1) w1 W → W.cell? ⟨w.heap.size, 0, none⟩ = some (.int .i64 v.k) ∧ W.cell? ⟨w.heap.size, 1, none⟩ = some (.bool v.b) ∧ W.cell? ⟨w.heap.size, 2, none⟩ = some (.int .i64 v.i) ∧ W.cell? ⟨w.heap.size, 3, none⟩ = some (.string (bs v.s)) ∧ W.cell? ⟨w.heap.size, 4, none⟩ = some (.slice A1 v.l.length c1) ∧ W.cell? ⟨w.heap.size, 5, none⟩ = some (.slice A2 v.o.length c2)) := fun W hW => by
      rw [← hw1] at hW
      exact box6 hW
    have HW := Lib.hid hw1
    have HL := Lib.hid hL
    have HO := Lib.hid hO
    obtain ⟨s, hs⟩ : ∃ s, s = bs v.s := ⟨_, rfl⟩
    rw [← hs] at HV HB HW hbox ⊢
    generalize v.bare = B at HB hM
    generalize Lib.validD v.s = V at HV hM
    obtain ⟨ll, hll⟩ : ∃ ll, ll = v.l := ⟨_, rfl⟩
    obtain ⟨lo, hlo⟩ : ∃ lo, lo = v.o := ⟨_, rfl⟩
    obtain ⟨k, hkk⟩ : ∃ k, k = v.k := ⟨_, rfl⟩
    obtain ⟨i, hii⟩ : ∃ k, k = v.i := ⟨_, rfl⟩
    obtain ⟨b, hbb⟩ : ∃ k, k = v.b := ⟨_, rfl⟩
    rw [← hll] at HL hl hc1 hM HB HW hbox ⊢
    rw [← hlo] at HO ho hc2 hM HB HW hbox ⊢
    rw [← hkk, ← hii, ← hbb] at HB HW hbox ⊢
    have HM := Lib.hid hM
    clear hM cb hf hd1 hd64 hbare hw1 hL hO ih hs hll hlo hkk hii hbb hk hi hv
    cases B with
    | false =>
      have HE : Hid (M = 9) := by rw [HM.out]; rfl
      go_enter Tryd.func31, Tryd.ntmps31
      go_wp2_with fail
      rw [HW.out]
      ((with_reducible refine (HB.out _).mono ?_); rintro e w2 ⟨rfl, b2⟩)
      have k2 := b1.trans (b2.mono b1.size)
      go_wp2
      go_ret
      exact ⟨by rw [HE.out] <;> rfl, k2⟩
    | true =>
      by_cases h64 : 64 < d
      · have HE : Hid (M = 5) := by rw [HM.out, if_neg (by simp), if_pos h64]; rfl
        go_enter Tryd.func31, Tryd.ntmps31
        go_wp2_with fail
        rw [HW.out]
        ((with_reducible refine (HB.out _).mono ?_); rintro e w2 ⟨rfl, b2⟩)
        have k2 := b1.trans (b2.mono b1.size)
        go_wp2
        go_ret
        exact ⟨by rw [HE.out] <;> rfl, k2⟩
      · have h64' : d ≤ 64 := by omega
        cases V with
        | false =>
          have HE : Hid (M = 3) := by rw [HM.out, if_neg (by simp), if_neg h64, if_pos rfl]; rfl
          clear h64
          go_enter Tryd.func31, Tryd.ntmps31
          go_wp2_with fail
          rw [HW.out]
          ((with_reducible refine (HB.out _).mono ?_); rintro e w2 ⟨rfl, b2⟩)
          have k2 := b1.trans (b2.mono b1.size)
          obtain ⟨q0, q1, q2, q3, q4, q5⟩ := hbox.out w2 (b2.mono (by omega))
          go_wp2_with fail
          ((with_reducible refine (HV.out _ (tabs_below hT k2)).mono ?_); rintro e w3 ⟨rfl, b3⟩)
          have k3 := bthen k2 b3
          go_wp2
          go_ret
          exact ⟨by rw [HE.out] <;> rfl, k3⟩
        | true =>
          have HE1 : Hid (firstE f ll ≠ 0 → M = firstE f ll) := fun h => by rw [HM.out, if_neg (by simp), if_neg h64, if_neg (by simp), if_pos h]
          have HE2 : Hid (firstE f ll = 0 → M = objE f none lo) := fun h => by rw [HM.out, if_neg (by simp), if_neg h64, if_neg (by simp), if_neg (by simp [h])]
          have HS0 : Hid (firstE f ll = firstE f (ll.drop 0)) := rfl
          clear h64 HM
          go_enter Tryd.func31, Tryd.ntmps31
          go_wp2_with fail
          rw [HW.out]
          ((with_reducible refine (HB.out _).mono ?_); rintro e w2 ⟨rfl, b2⟩)
          have k2 := b1.trans (b2.mono b1.size)
          obtain ⟨q0, q1, q2, q3, q4, q5⟩ := hbox.out w2 (b2.mono (by omega))
          go_wp2_with fail
          ((with_reducible refine (HV.out _ (tabs_below hT k2)).mono ?_); rintro e w3 ⟨rfl, b3⟩)
          have k3 := bthen k2 b3
          have m3 : Below (w.heap.size + 1) w1 w3 := (b2.mono (by omega)).trans (b3.mono (by have := b2.size; omega))
          clear q0 q1 q2 q3 q4 q5
          obtain ⟨q0, q1, q2, q3, q4, q5⟩ := hbox.out w3 m3
          go_wp2_with fail
          clear q0 q1 q2 q3 q4 q5
          go_loopw [26] (fun i wr => ∃ j : Nat, j ≤ ll.length ∧ i = .int .i64 j ∧ Below w3.heap.size w3 wr ∧ Hid (firstE f ll = firstE f (ll.drop j))) (fun i _ => ll.length - (intOf i).toNat)
          case atStart => exact ⟨0, Nat.zero_le _, rfl, Below.refl _ _, HS0⟩
          case round =>
            obtain ⟨j, hj, rfl, br, HS⟩ := hrel
            clear HS0
            have kr := bthen k3 br
            by_cases hlt : j < ll.length
            · obtain ⟨x, hx⟩ : ∃ x, ll[j]? = some x := ⟨_, List.getElem?_eq_getElem hlt⟩
              obtain ⟨g, p, ds, hA, hg, hr, hxi⟩ := HL.out j x hx
              obtain ⟨_, B1, e1, B2, e2, _, rfl, _⟩ := hxi.open
              have hstep := firstE_drop f ll j x hx
              rw [HF.out x] at hstep
              have hr2 : wr.rangeAt g (p + j * 6) _ := fun i u hu => (kr.cell (p := ⟨g, p + j * 6 + i, none⟩) hg).trans (hr i u hu)
              have hir : ∀ W, Below w.heap.size w W → Calls Tryd.prog 31 #[.agg #[.int .i64 x.k, .bool x.b, .int .i64 x.i, .string (bs x.s), .slice B1 x.l.length e1, .slice B2 x.o.length e2], .int .i64 (d + 1)] W fun e w' => e = .returned (.int .i64 (may n x (d + 1).toNat : Nat)) ∧ Below W.heap.size W w' := fun W hW => IH.out _ x (d + 1) W (hxi.then hW) (tabs_below hT hW) (by omega) (by omega)
              have HI := Lib.hid hir
              obtain ⟨r, hrr⟩ : ∃ r, r = may n x (d + 1).toNat := ⟨_, rfl⟩
              rw [← hrr] at hstep HI
              have HX := Lib.hid hstep
              have hAA := hA
              subst hAA
              clear hir hstep hrr hx hr hxi hA
              go_wp2_with (first | (refine wpList_load_mid rfl 26 (.tmp 28) rfl g (p + j * 6) rfl _ _ hr2 Tryd.underlying26 rfl info_val ?_))
              ((with_reducible refine (HI.out _ (kr.alloc kr.size _)).mono ?_); rintro e w4 ⟨rfl, b4⟩)
              have k4 := bthen (kr.alloc kr.size _) b4
              have r4 : Below w3.heap.size w3 w4 := bthen (br.alloc br.size _) b4
              clear hr2
              by_cases hr0 : r = 0
              · have hz : ((r : Int) != 0) = false := by rw [hr0]; rfl
                have HS2 : Hid (firstE f ll = firstE f (ll.drop (j + 1))) := by rw [HS.out, HX.out, if_neg (by simp [hr0])]; rfl
                clear hr0
                go_wp2
                go_roundw
                case rel => exact ⟨j + 1, by omega, by go_num, r4, HS2⟩
                case measure => simp [intOf]; omega
              · have hz : ((r : Int) != 0) = true := by rw [bne_iff_ne]; omega
                have HE : Hid (M = r) := by
                  have h1 : firstE f ll = r := by rw [HS.out, HX.out, if_pos hr0]
                  rw [HE1.out (by rw [h1]; exact hr0), h1]
                  rfl
                clear hr0
                go_wp2
                go_ret
                exact ⟨by rw [HE.out] <;> rfl, k4⟩
            · have HE3 : Hid (M = objE f none lo) := HE2.out (by rw [HS.out, firstE_end f ll j (by omega)])
              obtain ⟨w5, rfl⟩ : ∃ w5 : World, w5 = wr := ⟨_, rfl⟩
              have m5 : Below (w.heap.size + 1) w1 w5 := m3.trans (br.mono (by have := m3.size; omega))
              obtain ⟨q0, q1, q2, q3, q4, q5⟩ := hbox.out w5 m5
              clear HS HE1 HE2
              go_wp2_with fail
              clear q0 q1 q2 q3 q4 q5
              have m5' := Lib.hid m5
              have k5 := kr
              have HO0 : Hid (objE f none lo = objE f (prevK lo 0) (lo.drop 0)) := rfl
              go_loopw [41] (fun i wr => ∃ j : Nat, j ≤ lo.length ∧ i = .int .i64 j ∧ Below w5.heap.size w5 wr ∧ Hid (objE f none lo = objE f (prevK lo j) (lo.drop j))) (fun i _ => lo.length - (intOf i).toNat)
              case atStart => exact ⟨0, Nat.zero_le _, rfl, Below.refl _ _, HO0⟩
              case round =>
                obtain ⟨j, hj, rfl, br, HS⟩ := hrel
                clear HO0 kr m5
                have kr := bthen k5 br
                have m6 : Below (w.heap.size + 1) w1 wr := m5'.out.trans (br.mono (by have := m5'.out.size; omega))
                by_cases hlt : j < lo.length
                · obtain ⟨x, hx⟩ : ∃ x, lo[j]? = some x := ⟨_, List.getElem?_eq_getElem hlt⟩
                  obtain ⟨g, p, ds, hA, hg, hr, hxl, hxi⟩ := HO.out j x hx
                  obtain ⟨_, B1, e1, B2, e2, _, rfl, _⟩ := hxi.open
                  have hstep := objE_drop f lo j x hx
                  rw [HF.out x.2] at hstep
                  have hr2 : wr.rangeAt g (p + j * 7) _ := fun i u hu => (kr.cell (p := ⟨g, p + j * 7 + i, none⟩) hg).trans (hr i u hu)
                  have hir : ∀ W, Below w.heap.size w W → Calls Tryd.prog 31 #[.agg #[.int .i64 x.2.k, .bool x.2.b, .int .i64 x.2.i, .string (bs x.2.s), .slice B1 x.2.l.length e1, .slice B2 x.2.o.length e2], .int .i64 (d + 1)] W fun e w' => e = .returned (.int .i64 (may n x.2 (d + 1).toNat : Nat)) ∧ Below W.heap.size W w' := fun W hW => IH.out _ x.2 (d + 1) W (hxi.then hW) (tabs_below hT hW) (by omega) (by omega)
                  have hvk : ∀ W, Below w.heap.size w W → Calls Tryd.prog 54 #[.string (bs x.1)] W fun e w' => e = .returned (.bool (Lib.validD x.1)) ∧ Below W.heap.size W w' := fun W hW => by
                    have := utfValid_any (bs x.1) W (by rw [bs_size]; omega) (tabs_below hT hW)
                    rw [bs_data] at this
                    exact this
                  obtain ⟨r, hrr⟩ : ∃ r, r = may n x.2 (d + 1).toNat := ⟨_, rfl⟩
                  rw [← hrr] at hstep hir
                  obtain ⟨V, hVV⟩ : ∃ V, V = Lib.validD x.1 := ⟨_, rfl⟩
                  rw [← hVV] at hstep hvk
                  have HI := Lib.hid hir
                  have HK := Lib.hid hvk
                  have HX := Lib.hid hstep
                  have HXX := Lib.hid hx
                  obtain ⟨key, hkey⟩ : ∃ key, key = bs x.1 := ⟨_, rfl⟩
                  rw [← hkey] at hr2 HK
                  have HKey := Lib.hid hkey
                  have hAA := hA
                  subst hAA
                  clear hir hvk hstep hrr hVV hx hr hxi hA hkey
                  go_wp2_with (first | (refine wpList_load_mid rfl 46 (.tmp 44) rfl g (p + j * 7) rfl _ _ hr2 Tryd.underlying46 rfl info_mem ?_))
                  have ka := kr.alloc kr.size (.cells #[.string key, .int .i64 x.2.k, .bool x.2.b, .int .i64 x.2.i, .string (bs x.2.s), .slice B1 x.2.l.length e1, .slice B2 x.2.o.length e2] 46)
                  have ra := br.alloc br.size (.cells #[.string key, .int .i64 x.2.k, .bool x.2.b, .int .i64 x.2.i, .string (bs x.2.s), .slice B1 x.2.l.length e1, .slice B2 x.2.o.length e2] 46)
                  have ma := m6.alloc (by have := m6.size; omega) (.cells #[.string key, .int .i64 x.2.k, .bool x.2.b, .int .i64 x.2.i, .string (bs x.2.s), .slice B1 x.2.l.length e1, .slice B2 x.2.o.length e2] 46)
                  ((with_reducible refine (HK.out _ ka).mono ?_); rintro e w6 ⟨rfl, b6⟩)
                  have k6 := bthen ka b6
                  have r6 := bthen ra b6
                  clear hr2
                  cases V with
                  | false =>
                    have HE : Hid (M = 3) := by rw [HE3.out, HS.out, HX.out, if_pos rfl]; rfl
                    go_wp2
                    go_ret
                    exact ⟨by rw [HE.out] <;> rfl, k6⟩
                  | true =>
                    obtain ⟨t0, t1, t2, t3, t4, t5, t6⟩ := box7 b6
                    obtain ⟨q0, q1, q2, q3, q4, q5⟩ := hbox.out w6 (ma.trans (b6.mono (by have := ma.size; omega)))
                    clear q0 q1 q2 q3 q4 ma ra ka
                    have tail : ∀ w7, Dr w6 w7 → True := fun _ _ => trivial
                    rcases Nat.eq_zero_or_pos j with rfl | hj0
                    · have HX2 : Hid (objE f none lo = if r ≠ 0 then r else objE f (prevK lo 1) (lo.drop 1)) := by
                        rw [HS.out, HX.out, if_neg (by simp), if_neg (by simp [prevK, notAbove])]
                        rfl
                      clear HX tail
                      go_wp2
                      go_quiet (fail)
                      go_wp2_with fail
                      ((with_reducible refine (HI.out _ (Below.drewN' k6 _)).mono ?_); rintro e w7 ⟨rfl, b7⟩)
                      have k7 := bthen (Below.drewN' k6 _) b7
                      have r7 := bthen (Below.drewN' r6 _) b7
                      clear t0 t1 t2 t3 t4 t5 t6 q5
                      by_cases hr0 : r = 0
                      · have hz : ((r : Int) != 0) = false := by rw [hr0]; rfl
                        have HS2 : Hid (objE f none lo = objE f (prevK lo (0 + 1)) (lo.drop (0 + 1))) := by rw [HX2.out, if_neg (by simp [hr0])]; rfl
                        clear hr0
                        go_wp2
                        go_roundw
                        case rel => exact ⟨0 + 1, by omega, by go_num, r7, HS2⟩
                        case measure => simp [intOf]; try omega
                      · have hz : ((r : Int) != 0) = true := by rw [bne_iff_ne]; omega
                        have HE : Hid (M = r) := by
                          rw [HE3.out, HX2.out, if_pos hr0]
                          rfl
                        clear hr0
                        go_wp2
                        go_ret
                        exact ⟨by rw [HE.out] <;> rfl, k7⟩
                    · obtain ⟨i, rfl⟩ : ∃ i, j = i + 1 := ⟨j - 1, by omega⟩
                      obtain ⟨y, hy⟩ : ∃ y, lo[i]? = some y := ⟨_, List.getElem?_eq_getElem (by omega)⟩
                      obtain ⟨g', p', ds', hA', _, hr', _, _⟩ := HO.out i y hy
                      injection hA' with hA'
                      injection hA' with e1 e2
                      subst e1 e2
                      have hcy : w6.cell? ⟨g, p + i * 7, none⟩ = some (.string (bs y.1)) := (k6.cell (p := ⟨g, p + i * 7, none⟩) hg).trans (hr' 0 _ rfl)
                      obtain ⟨pk, hpk⟩ : ∃ pk, pk = bs y.1 := ⟨_, rfl⟩
                      rw [← hpk] at hcy
                      have hprev : prevK lo (i + 1) = some y.1 := by unfold prevK; rw [if_neg (by omega), show i + 1 - 1 = i by omega, hy]; rfl
                      obtain ⟨cc, hcc⟩ : ∃ cc, Op.bytesLess key.toList pk.toList = cc := ⟨_, rfl⟩
                      obtain ⟨ce, hce⟩ : ∃ ce, (key.toList == pk.toList) = ce := ⟨_, rfl⟩
                      have hna : notAbove (prevK lo (i + 1)) x.1 = (cc || ce) := by rw [hprev, ← hcc, ← hce, leq_less, hpk, HKey.out, bs_toList, bs_toList]; rfl
                      have hjp : (0 : Int) < (i : Int) + 1 := by omega
                      have hil : (i : Int) < (lo.length : Int) := by omega
                      have HNA := Lib.hid hna
                      clear hr' hy hpk hprev tail hna
                      cases cc with
                      | true =>
                        have HE : Hid (M = 8) := by rw [HE3.out, HS.out, HX.out, if_neg (by simp), if_pos (by rw [HNA.out]; rfl)]; rfl
                        go_wp2
                        go_quiet (fail)
                        go_wp2
                        go_ret
                        exact ⟨by rw [HE.out] <;> rfl, Below.drewN' k6 _⟩
                      | false =>
                       cases ce with
                       | true =>
                        have HE : Hid (M = 8) := by rw [HE3.out, HS.out, HX.out, if_neg (by simp), if_pos (by rw [HNA.out]; rfl)]; rfl
                        go_wp2
                        go_quiet (fail)
                        go_wp2
                        go_ret
                        exact ⟨by rw [HE.out] <;> rfl, Below.drewN' k6 _⟩
                       | false =>
                        have HX2 : Hid (objE f none lo = if r ≠ 0 then r else objE f (prevK lo (i + 1 + 1)) (lo.drop (i + 1 + 1))) := by
                          rw [HS.out, HX.out, if_neg (by simp), if_neg (by rw [HNA.out]; simp)]
                          rfl
                        clear HX
                        go_wp2
                        go_quiet (fail)
                        go_wp2_with fail
                        ((with_reducible refine (HI.out _ (Below.drewN' k6 _)).mono ?_); rintro e w7 ⟨rfl, b7⟩)
                        have k7 := bthen (Below.drewN' k6 _) b7
                        have r7 := bthen (Below.drewN' r6 _) b7
                        clear t0 t1 t2 t3 t4 t5 t6 q5
                        by_cases hr0 : r = 0
                        · have hz : ((r : Int) != 0) = false := by rw [hr0]; rfl
                          have HS2 : Hid (objE f none lo = objE f (prevK lo (i + 1 + 1)) (lo.drop (i + 1 + 1))) := by rw [HX2.out, if_neg (by simp [hr0])]; rfl
                          clear hr0
                          go_wp2
                          go_roundw
                          case rel => exact ⟨i + 1 + 1, by omega, by go_num, r7, HS2⟩
                          case measure => simp [intOf]; try omega
                        · have hz : ((r : Int) != 0) = true := by rw [bne_iff_ne]; omega
                          have HE : Hid (M = r) := by
                            rw [HE3.out, HX2.out, if_pos hr0]
                            rfl
                          clear hr0
                          go_wp2
                          go_ret
                          exact ⟨by rw [HE.out] <;> rfl, k7⟩
                · have HE : Hid (M = 0) := by rw [HE3.out, HS.out, objE_end f _ lo j (by omega)]; rfl
                  go_wp2
                  go_ret
                  exact ⟨by rw [HE.out] <;> rfl, kr⟩
end Go.Proofs.YthaikagelloeoaaDoor
