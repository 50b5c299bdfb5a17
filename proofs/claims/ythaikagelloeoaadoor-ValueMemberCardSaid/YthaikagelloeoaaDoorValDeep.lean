import Derived.Test.YthaikagelloeoaaDoorValCmp
namespace Go.Proofs.YthaikagelloeoaaDoor
open Go.RowKit Val

theorem grown_below2 {w w' : World} {b B : Nat} (h : w.grownBy w' (some b)) (hB : B ≤ w.heap.size) (hb : B ≤ b) : Below B w w' := (Below.refl B w).grown h hB (fun k e => by injection e with e; omega)
theorem grown_set3 {a w : World} {b : Nat} (h : a.grownBy w (some b)) (u : Value) : a.grownBy (w.setCell ⟨b, 0, none⟩ u) (some b) :=
  ⟨h.os, h.tape, h.output, by simpa [World.setCell] using h.size, fun k hk hne => (Below.heap_setCell w _ u k (fun e => hne (by rw [e]))).trans (h.block k hk hne)⟩
theorem grown_of_below {w w' : World} (b : Nat) (h : Below w.heap.size w w') : w.grownBy w' (some b) := ⟨h.os, h.tape, h.output, h.size, fun k hk _ => h.block k hk⟩
theorem grown_then {a w w' : World} {b : Nat} (h : a.grownBy w (some b)) (k : w.grownBy w' (some b)) : a.grownBy w' (some b) :=
  ⟨k.os.trans h.os, k.tape.trans h.tape, k.output.trans h.output, Nat.le_trans h.size k.size, fun i hi hne => (k.block i (Nat.lt_of_lt_of_le hi h.size) hne).trans (h.block i hi hne)⟩
theorem cell_alloc_d {W : World} (o : Obj) {a : Addr} {v : Value} (h : W.cell? a = some v) : (W.alloc o).cell? a = some v :=
  (World.cell?_of_block (Below.heap_alloc W o a.block (World.block_lt_of_cell? W a h))).trans h
theorem frozen_alloc_d {W : World} (o : Obj) {a : Addr} {v : Value} (h : W.cell? a = some v) (hf : W.frozen? a = false) : (W.alloc o).frozen? a = false :=
  (World.frozen?_of_block (Below.heap_alloc W o a.block (World.block_lt_of_cell? W a h))).trans hf
theorem grown_drew1 {a w : World} {b : Nat} (h : a.grownBy w (some b)) : a.grownBy w.drew (some b) := ⟨h.os, h.tape, h.output, h.size, h.block⟩

set_option maxHeartbeats 2000000 in
theorem deep_cl (n : Nat) (ih : ∀ (cs : List Value) (v : Val) (w : World), VIn w w.heap.size n cs v → Calls Tryd.prog 22 #[.agg cs.toArray] w fun e w' => e = .returned (.int .i64 (deep n v)) ∧ Below w.heap.size w w')
    (cs : List Value) (v : Val) (b B : Nat) (m : Int) (w : World) (hv : VIn w B n cs v) (hB : B ≤ b) (hb : b < w.heap.size) (hc : w.cell? ⟨b, 0, none⟩ = some (.int .i64 m)) (hf : w.frozen? ⟨b, 0, none⟩ = false) :
    Calls Tryd.prog 49 #[.agg cs.toArray, .pointer (some ⟨b, 0, none⟩)] w fun e w' => e = .returned (.tuple #[]) ∧ w'.cell? ⟨b, 0, none⟩ = some (.int .i64 (stepD m (deep n v))) ∧ w'.frozen? ⟨b, 0, none⟩ = false ∧ w.grownBy w' (some b) := by
  obtain ⟨_, A1, c1, A2, c2, -, rfl, -⟩ := hv.open
  have hi : ∀ W, Below w.heap.size w W → Calls Tryd.prog 22 #[.agg #[.int .i64 v.k, .bool v.b, .int .i64 v.i, .string (bs v.s), .slice A1 v.l.length c1, .slice A2 v.o.length c2]] W fun e w' => e = .returned (.int .i64 (deep n v)) ∧ Below W.heap.size W w' := fun W hW => ih _ v W ((hv.more (by omega)).then hW)
  obtain ⟨d, hd⟩ : ∃ d, d = deep n v := ⟨_, rfl⟩
  rw [← hd] at hi ⊢
  have b1 : Below w.heap.size w (w.alloc (.cells #[.int .i64 v.k, .bool v.b, .int .i64 v.i, .string (bs v.s), .slice A1 v.l.length c1, .slice A2 v.o.length c2] 26)).drew := ((Below.refl _ w).alloc (Nat.le_refl _) _).drew
  have HI := Lib.hid (hi _ b1)
  have hcb : Hid (∀ W, Below (w.alloc (.cells #[.int .i64 v.k, .bool v.b, .int .i64 v.i, .string (bs v.s), .slice A1 v.l.length c1, .slice A2 v.o.length c2] 26)).drew.heap.size (w.alloc (.cells #[.int .i64 v.k, .bool v.b, .int .i64 v.i, .string (bs v.s), .slice A1 v.l.length c1, .slice A2 v.o.length c2] 26)).drew W → W.cell? ⟨b, 0, none⟩ = some (.int .i64 m) ∧ W.frozen? ⟨b, 0, none⟩ = false ∧ w.grownBy W (some b)) := fun W hW => by
    have h := bthen b1 hW
    exact ⟨(h.cell (p := ⟨b, 0, none⟩) hb).trans hc, (h.frozen (p := ⟨b, 0, none⟩) hb).trans hf, grown_of_below b h⟩
  clear hi hd hv ih
  have hst : Hid (∀ W, w.grownBy W (some b) → W.cell? ⟨b, 0, none⟩ = some (.int .i64 m) → W.frozen? ⟨b, 0, none⟩ = false → ((W.setCell ⟨b, 0, none⟩ (.int .i64 (stepD m d))).cell? ⟨b, 0, none⟩ = some (.int .i64 (stepD m d)) ∧ (W.setCell ⟨b, 0, none⟩ (.int .i64 (stepD m d))).frozen? ⟨b, 0, none⟩ = false ∧ w.grownBy (W.setCell ⟨b, 0, none⟩ (.int .i64 (stepD m d))) (some b))) := fun W h1 h2 h3 =>
    ⟨World.cell?_setCell_same' _ _ _ (by rw [h2]; rfl), by rw [World.frozen?_setCell]; exact h3, grown_set3 h1 _⟩
  have hmx : ∀ x y : Int, max x y = stepD x y := fun _ _ => rfl
  have hws : ∀ x y : Int, IntKind.i64.wrap (x + y) = stepS x y := fun x y => IntWalk.i64_left (x + y)
  have hws2 : ∀ x y : Int, wrap64 (x + y) = stepS x y := fun x y => rfl
  go_enter Tryd.func49, Tryd.ntmps49
  go_wp2_with fail
  go_region_with (first | (go_at_call 22; refine HI.out.mono ?_; rintro e w' ⟨rfl, hb'⟩; obtain ⟨hc', hf', hg'⟩ := hcb.out w' hb'))
  all_goals
    go_end0
    first
    | exact ⟨rfl, hst.out _ hg' hc' hf'⟩
    | (rw [hws]; exact ⟨rfl, hst.out _ hg' hc' hf'⟩)
    | (rw [hws2]; exact ⟨rfl, hst.out _ hg' hc' hf'⟩)

set_option maxRecDepth 100000 in
set_option maxHeartbeats 4000000 in
theorem deep_each (n : Nat) (ih : ∀ (cs : List Value) (v : Val) (w : World), VIn w w.heap.size n cs v → Calls Tryd.prog 22 #[.agg cs.toArray] w fun e w' => e = .returned (.int .i64 (deep n v)) ∧ Below w.heap.size w w')
    (cs : List Value) (v : Val) (b B : Nat) (m : Int) (w : World) (hv : VIn w B (n + 1) cs v) (hB : B ≤ b) (hb : b < w.heap.size) (hc : w.cell? ⟨b, 0, none⟩ = some (.int .i64 m)) (hf : w.frozen? ⟨b, 0, none⟩ = false) :
    Calls Tryd.prog 48 #[.agg cs.toArray, .func (.func 49) #[] #[.pointer (some ⟨b, 0, none⟩)]] w fun e w' => e = .returned (.tuple #[]) ∧ w'.cell? ⟨b, 0, none⟩ = some (.int .i64 (foldK stepD (deep n) m v.kids)) ∧ w'.frozen? ⟨b, 0, none⟩ = false ∧ w.grownBy w' (some b) := by
  obtain ⟨n', A1, c1, A2, c2, e, rfl, _, _, _, hl, ho, _, _, hL, hO⟩ := hv.open
  obtain rfl : n = n' := by omega
  have hcl := fun cs x W m (hx : VIn W B n cs x) (hbW : b < W.heap.size) (h1 : W.cell? ⟨b, 0, none⟩ = some (.int .i64 m)) (h2 : W.frozen? ⟨b, 0, none⟩ = false) => deep_cl n ih cs x b B m W hx hB hbW h1 h2
  obtain ⟨M, hM⟩ : ∃ M, M = foldK stepD (deep n) m v.kids := ⟨_, rfl⟩
  rw [← hM]
  have HCL := Lib.hid hcl
  have HL := Lib.hid hL
  have HO := Lib.hid hO
  obtain ⟨w1, hw1⟩ : ∃ w1, w.alloc (.cells #[.int .i64 v.k, .bool v.b, .int .i64 v.i, .string (bs v.s), .slice A1 v.l.length c1, .slice A2 v.o.length c2] 26) = w1 := ⟨_, rfl⟩
  have g1 : w.grownBy w1 (some b) := by rw [← hw1]; exact grown_of_below b ((Below.refl _ w).alloc (Nat.le_refl _) _)
  have hc1 : w1.cell? ⟨b, 0, none⟩ = some (.int .i64 m) := by rw [← hw1]; exact cell_alloc_d _ hc
  have hf1 : w1.frozen? ⟨b, 0, none⟩ = false := by rw [← hw1]; exact frozen_alloc_d _ hc hf
  have hkeep : Hid (∀ W, w.grownBy W (some b) → ∀ p : Addr, p.block < B → W.cell? p = w.cell? p) := fun W hW p hp => World.cell?_of_block (hW.block p.block (by omega) (fun e => by injection e with e; omega))
  have HW := Lib.hid hw1
  have hkid : v.kids = if v.k = 5 then v.l else if v.k = 6 then v.o.map (·.2) else [] := rfl
  rw [hkid] at hM
  have hsz : ∀ W, w.grownBy W (some b) → b < W.heap.size := fun W hW => Nat.lt_of_lt_of_le hb hW.size
  have HSZ := Lib.hid hsz
  clear hcl hL hO ih hv hc hf hw1 hkid hsz e
  by_cases k5 : v.k = 5
  · rw [if_pos k5] at hM
    have k5' : (v.k == 5) = true := by rw [k5]; rfl
    have HM := Lib.hid hM
    clear hM k5
    go_enter Tryd.func48, Tryd.ntmps48
    go_wp2_with fail
    rw [HW.out]
    go_loopw [15] (fun i wr => ∃ j : Nat, j ≤ v.l.length ∧ i = .int .i64 j ∧ w.grownBy wr (some b) ∧ wr.cell? ⟨b, 0, none⟩ = some (.int .i64 (foldK stepD (deep n) m (v.l.take j))) ∧ wr.frozen? ⟨b, 0, none⟩ = false) (fun i _ => v.l.length - (intOf i).toNat)
    case atStart => exact ⟨0, Nat.zero_le _, rfl, g1, hc1, hf1⟩
    case round =>
      obtain ⟨j, hj, rfl, hg, hcr, hfr⟩ := hrel
      clear g1 hc1 hf1
      by_cases hlt : j < v.l.length
      · obtain ⟨x, hx⟩ : ∃ x, v.l[j]? = some x := ⟨_, List.getElem?_eq_getElem hlt⟩
        obtain ⟨g, p, ds, hA, hgB, hr, hxi⟩ := HL.out j x hx
        obtain ⟨_, B1, e1, B2, e2, -, rfl, -⟩ := hxi.open
        have hst := foldK_take stepD (deep n) m v.l j x hx
        obtain ⟨a0, a1, a2, a3, a4, a5⟩ := range6 (w := wr) (fun i u hu => (hkeep.out wr hg ⟨g, p + j * 6 + i, none⟩ hgB).trans (hr i u hu))
        have b2 : Below wr.heap.size wr (wr.alloc (.cells #[.int .i64 x.k, .bool x.b, .int .i64 x.i, .string (bs x.s), .slice B1 x.l.length e1, .slice B2 x.o.length e2] 26)) := (Below.refl _ wr).alloc (Nat.le_refl _) _
        have hg2 := grown_then hg (grown_of_below b b2)
        have hbw := HSZ.out wr hg
        have cc := HCL.out _ x _ _ (hxi.keep (Nat.le_refl _) (hkeep.out _ hg2)) (HSZ.out _ hg2) (cell_alloc_d (.cells #[.int .i64 x.k, .bool x.b, .int .i64 x.i, .string (bs x.s), .slice B1 x.l.length e1, .slice B2 x.o.length e2] 26) hcr) (frozen_alloc_d _ hcr hfr)
        rw [← hst] at cc
        have HC := Lib.hid cc
        have HG2 := Lib.hid hg2
        subst hA
        clear cc hst hx hr hxi hg2 hcr hfr b2
        go_wp2_with fail
        refine HC.out.mono ?_
        rintro e w4 ⟨rfl, hc4, hf4, hg4⟩
        have hg5 := grown_then HG2.out hg4
        clear HC HG2 a0 a1 a2 a3 a4 a5
        go_wp2
        go_roundw
        case rel => exact ⟨j + 1, by omega, by go_num, hg5, hc4, hf4⟩
        case measure => simp [intOf]; omega
      · have hM2 : foldK stepD (deep n) m (v.l.take j) = M := by rw [HM.out, List.take_of_length_le (by omega)]
        rw [hM2] at hcr
        clear hM2
        go_wp2
        go_end0
        exact ⟨rfl, hcr, hfr, hg⟩
  · rw [if_neg k5] at hM
    have k5' : (v.k == 5) = false := by simp [k5]
    by_cases k6 : v.k = 6
    · rw [if_pos k6] at hM
      have k6' : (v.k == 6) = true := by rw [k6]; rfl
      have HM := Lib.hid hM
      clear hM k6 k5
      go_enter Tryd.func48, Tryd.ntmps48
      go_wp2_with fail
      rw [HW.out]
      go_loopw [28] (fun i wr => ∃ j : Nat, j ≤ v.o.length ∧ i = .int .i64 j ∧ w.grownBy wr (some b) ∧ wr.cell? ⟨b, 0, none⟩ = some (.int .i64 (foldK stepD (deep n) m ((v.o.map (·.2)).take j))) ∧ wr.frozen? ⟨b, 0, none⟩ = false) (fun i _ => v.o.length - (intOf i).toNat)
      case atStart => exact ⟨0, Nat.zero_le _, rfl, g1, hc1, hf1⟩
      case round =>
        obtain ⟨j, hj, rfl, hg, hcr, hfr⟩ := hrel
        clear g1 hc1 hf1
        by_cases hlt : j < v.o.length
        · obtain ⟨xm, hx⟩ : ∃ x, v.o[j]? = some x := ⟨_, List.getElem?_eq_getElem hlt⟩
          obtain ⟨g, p, ds, hA, hgB, hr, _, hxi⟩ := HO.out j xm hx
          have hx2 : (v.o.map (·.2))[j]? = some xm.2 := by rw [List.getElem?_map, hx]; rfl
          obtain ⟨xk, x⟩ := xm
          obtain ⟨_, B1, e1, B2, e2, -, rfl, -⟩ := hxi.open
          have hst := foldK_take stepD (deep n) m (v.o.map (·.2)) j x hx2
          obtain ⟨a0, a1, a2, a3, a4, a5, a6⟩ := range7 (w := wr) (fun i u hu => (hkeep.out wr hg ⟨g, p + j * 7 + i, none⟩ hgB).trans (hr i u hu))
          have b2 : Below wr.heap.size wr (wr.alloc (.cells #[.string (bs xk), .int .i64 x.k, .bool x.b, .int .i64 x.i, .string (bs x.s), .slice B1 x.l.length e1, .slice B2 x.o.length e2] 46)) := (Below.refl _ wr).alloc (Nat.le_refl _) _
          have hg2 := grown_then hg (grown_of_below b b2)
          have hbw := HSZ.out wr hg
          have cc := HCL.out _ x _ _ (hxi.keep (Nat.le_refl _) (hkeep.out _ hg2)) (HSZ.out _ hg2) (cell_alloc_d (.cells #[.string (bs xk), .int .i64 x.k, .bool x.b, .int .i64 x.i, .string (bs x.s), .slice B1 x.l.length e1, .slice B2 x.o.length e2] 46) hcr) (frozen_alloc_d _ hcr hfr)
          rw [← hst] at cc
          have HC := Lib.hid cc
          have HG2 := Lib.hid hg2
          subst hA
          clear cc hst hx hx2 hr hxi hg2 hcr hfr b2
          go_wp2_with fail
          refine HC.out.mono ?_
          rintro e w4 ⟨rfl, hc4, hf4, hg4⟩
          have hg5 := grown_then HG2.out hg4
          clear HC HG2 a0 a1 a2 a3 a4 a5 a6
          go_wp2
          go_roundw
          case rel => exact ⟨j + 1, by omega, by go_num, hg5, hc4, hf4⟩
          case measure => simp [intOf]; omega
        · have hM2 : foldK stepD (deep n) m ((v.o.map (·.2)).take j) = M := by rw [HM.out, List.take_of_length_le (by rw [List.length_map]; omega)]
          rw [hM2] at hcr
          clear hM2
          go_wp2
          go_end0
          exact ⟨rfl, hcr, hfr, hg⟩
    · rw [if_neg k6] at hM
      have k6' : (v.k == 6) = false := by simp [k6]
      have hM2 : m = M := by rw [hM]; rfl
      rw [hM2] at hc1
      clear hM k6 k5 hM2
      go_enter Tryd.func48, Tryd.ntmps48
      go_wp2_with fail
      rw [HW.out]
      go_wp2
      go_end0
      exact ⟨rfl, hc1, hf1, g1⟩

set_option maxHeartbeats 4000000 in
theorem deep_any : ∀ (n : Nat) (cs : List Value) (v : Val) (w : World), VIn w w.heap.size n cs v → Calls Tryd.prog 22 #[.agg cs.toArray] w fun e w' => e = .returned (.int .i64 (deep n v)) ∧ Below w.heap.size w w' := by
  intro n
  induction n with
  | zero => intro cs v w h; exact absurd h (by simp [VIn])
  | succ n ih =>
    intro cs v w hv
    obtain ⟨n', A1, c1, A2, c2, e, rfl, -⟩ := hv.open
    obtain ⟨q, hq⟩ : ∃ q, q = deep (n + 1) v := ⟨_, rfl⟩
    rw [← hq]
    obtain ⟨q0, hq0⟩ : ∃ q0, q0 = foldK stepD (deep n) 0 v.kids := ⟨_, rfl⟩
    have HE : Hid (q = wrap64 (q0 + 1)) := by rw [hq, hq0]; rfl
    obtain ⟨cv, hcv⟩ : ∃ cv : List Value, cv = [.int .i64 v.k, .bool v.b, .int .i64 v.i, .string (bs v.s), .slice A1 v.l.length c1, .slice A2 v.o.length c2] := ⟨_, rfl⟩
    have b1 : Below w.heap.size w (w.alloc (.cells #[.int .i64 v.k, .bool v.b, .int .i64 v.i, .string (bs v.s), .slice A1 v.l.length c1, .slice A2 v.o.length c2] 26)) := (Below.refl _ w).alloc (Nat.le_refl _) _
    obtain ⟨w1, hw1⟩ : ∃ w1, w.alloc (.cells #[.int .i64 v.k, .bool v.b, .int .i64 v.i, .string (bs v.s), .slice A1 v.l.length c1, .slice A2 v.o.length c2] 26) = w1 := ⟨_, rfl⟩
    rw [hw1] at b1
    have z1 : w1.heap.size = w.heap.size + 1 := by rw [← hw1]; exact World.size_alloc _ _
    have b2 : Below w.heap.size w (w1.alloc (.cells #[.int .i64 0] 3)) := b1.alloc b1.size _
    have hn : ∃ o, (w1.alloc (.cells #[.int .i64 0] 3)).heap[w1.heap.size]? = some o ∧ o = .cells #[.int .i64 0] 3 (0, 0) := ⟨_, heap_alloc_new w1 _, rfl⟩
    obtain ⟨_, hn, rfl⟩ := hn
    have hE := deep_each n ih _ v (w1.heap.size) w.heap.size 0 _ (hv.below b2 (Nat.le_refl _)) (by omega) (by rw [World.size_alloc]; omega) (cell_of_row _ _ 0 _ _ (0, 0) hn) (by unfold World.frozen?; rw [hn]; rfl)
    rw [← hq0] at hE
    have hbox : ∀ W, Below (w.heap.size + 1) w1 W → W.cell? ⟨w.heap.size, 0, none⟩ = some (.int .i64 v.k) ∧ W.cell? ⟨w.heap.size, 1, none⟩ = some (.bool v.b) ∧ W.cell? ⟨w.heap.size, 2, none⟩ = some (.int .i64 v.i) ∧ W.cell? ⟨w.heap.size, 3, none⟩ = some (.string (bs v.s)) ∧ W.cell? ⟨w.heap.size, 4, none⟩ = some (.slice A1 v.l.length c1) ∧ W.cell? ⟨w.heap.size, 5, none⟩ = some (.slice A2 v.o.length c2) := fun W hW => by
      rw [← hw1] at hW
      exact box6 hW
    have bb : Below (w.heap.size + 1) w1 (w1.alloc (.cells #[.int .i64 0] 3)) := (Below.refl _ w1).alloc (by omega) _
    obtain ⟨q0', q1, q2, q3, q4, q5⟩ := hbox _ bb
    have HW := Lib.hid hw1
    rw [z1] at hE
    have HE2 := Lib.hid hE
    have hfin : Hid (∀ W, (w1.alloc (.cells #[.int .i64 0] 3)).grownBy W (some (w.heap.size + 1)) → Below w.heap.size w W) := fun W hW => b2.grown hW (by rw [World.size_alloc]; omega) (fun k e => by injection e with e; omega)
    clear hw1 hE hbox bb hq hq0 hv ih e hn hcv cv
    go_enter Tryd.func22, Tryd.ntmps22
    go_wp2_with fail
    rw [HW.out]
    go_wp2_with fail
    (with_reducible refine HE2.out.mono ?_)
    rintro e w3 ⟨rfl, hc3, hf3, hg3⟩
    have b3 := hfin.out _ hg3
    go_wp2
    go_ret
    exact ⟨by rw [HE.out] <;> rfl, b3⟩
set_option maxHeartbeats 2000000 in
theorem size_cl (n : Nat) (ih : ∀ (cs : List Value) (v : Val) (w : World), VIn w w.heap.size n cs v → Calls Tryd.prog 24 #[.agg cs.toArray] w fun e w' => e = .returned (.int .i64 (size n v)) ∧ Below w.heap.size w w')
    (cs : List Value) (v : Val) (b B : Nat) (m : Int) (w : World) (hv : VIn w B n cs v) (hB : B ≤ b) (hb : b < w.heap.size) (hc : w.cell? ⟨b, 0, none⟩ = some (.int .i64 m)) (hf : w.frozen? ⟨b, 0, none⟩ = false) :
    Calls Tryd.prog 50 #[.agg cs.toArray, .pointer (some ⟨b, 0, none⟩)] w fun e w' => e = .returned (.tuple #[]) ∧ w'.cell? ⟨b, 0, none⟩ = some (.int .i64 (stepS m (size n v))) ∧ w'.frozen? ⟨b, 0, none⟩ = false ∧ w.grownBy w' (some b) := by
  obtain ⟨_, A1, c1, A2, c2, -, rfl, -⟩ := hv.open
  have hi : ∀ W, Below w.heap.size w W → Calls Tryd.prog 24 #[.agg #[.int .i64 v.k, .bool v.b, .int .i64 v.i, .string (bs v.s), .slice A1 v.l.length c1, .slice A2 v.o.length c2]] W fun e w' => e = .returned (.int .i64 (size n v)) ∧ Below W.heap.size W w' := fun W hW => ih _ v W ((hv.more (by omega)).then hW)
  obtain ⟨d, hd⟩ : ∃ d, d = size n v := ⟨_, rfl⟩
  rw [← hd] at hi ⊢
  have b1 : Below w.heap.size w (w.alloc (.cells #[.int .i64 v.k, .bool v.b, .int .i64 v.i, .string (bs v.s), .slice A1 v.l.length c1, .slice A2 v.o.length c2] 26)).drew := ((Below.refl _ w).alloc (Nat.le_refl _) _).drew
  have HI := Lib.hid (hi _ b1)
  have hcb : Hid (∀ W, Below (w.alloc (.cells #[.int .i64 v.k, .bool v.b, .int .i64 v.i, .string (bs v.s), .slice A1 v.l.length c1, .slice A2 v.o.length c2] 26)).drew.heap.size (w.alloc (.cells #[.int .i64 v.k, .bool v.b, .int .i64 v.i, .string (bs v.s), .slice A1 v.l.length c1, .slice A2 v.o.length c2] 26)).drew W → W.cell? ⟨b, 0, none⟩ = some (.int .i64 m) ∧ W.frozen? ⟨b, 0, none⟩ = false ∧ w.grownBy W (some b)) := fun W hW => by
    have h := bthen b1 hW
    exact ⟨(h.cell (p := ⟨b, 0, none⟩) hb).trans hc, (h.frozen (p := ⟨b, 0, none⟩) hb).trans hf, grown_of_below b h⟩
  clear hi hd hv ih
  have hst : Hid (∀ W, w.grownBy W (some b) → W.cell? ⟨b, 0, none⟩ = some (.int .i64 m) → W.frozen? ⟨b, 0, none⟩ = false → ((W.setCell ⟨b, 0, none⟩ (.int .i64 (stepS m d))).cell? ⟨b, 0, none⟩ = some (.int .i64 (stepS m d)) ∧ (W.setCell ⟨b, 0, none⟩ (.int .i64 (stepS m d))).frozen? ⟨b, 0, none⟩ = false ∧ w.grownBy (W.setCell ⟨b, 0, none⟩ (.int .i64 (stepS m d))) (some b))) := fun W h1 h2 h3 =>
    ⟨World.cell?_setCell_same' _ _ _ (by rw [h2]; rfl), by rw [World.frozen?_setCell]; exact h3, grown_set3 h1 _⟩
  have hmx : ∀ x y : Int, max x y = stepD x y := fun _ _ => rfl
  have hws : ∀ x y : Int, IntKind.i64.wrap (x + y) = stepS x y := fun x y => IntWalk.i64_left (x + y)
  have hws2 : ∀ x y : Int, wrap64 (x + y) = stepS x y := fun x y => rfl
  go_enter Tryd.func50, Tryd.ntmps50
  go_wp2_with fail
  go_region_with (first | (go_at_call 24; refine HI.out.mono ?_; rintro e w' ⟨rfl, hb'⟩; obtain ⟨hc', hf', hg'⟩ := hcb.out w' hb'))
  all_goals
    go_end0
    first
    | exact ⟨rfl, hst.out _ hg' hc' hf'⟩
    | (rw [hws]; exact ⟨rfl, hst.out _ hg' hc' hf'⟩)
    | (rw [hws2]; exact ⟨rfl, hst.out _ hg' hc' hf'⟩)

set_option maxRecDepth 100000 in
set_option maxHeartbeats 4000000 in
theorem size_each (n : Nat) (ih : ∀ (cs : List Value) (v : Val) (w : World), VIn w w.heap.size n cs v → Calls Tryd.prog 24 #[.agg cs.toArray] w fun e w' => e = .returned (.int .i64 (size n v)) ∧ Below w.heap.size w w')
    (cs : List Value) (v : Val) (b B : Nat) (m : Int) (w : World) (hv : VIn w B (n + 1) cs v) (hB : B ≤ b) (hb : b < w.heap.size) (hc : w.cell? ⟨b, 0, none⟩ = some (.int .i64 m)) (hf : w.frozen? ⟨b, 0, none⟩ = false) :
    Calls Tryd.prog 48 #[.agg cs.toArray, .func (.func 50) #[] #[.pointer (some ⟨b, 0, none⟩)]] w fun e w' => e = .returned (.tuple #[]) ∧ w'.cell? ⟨b, 0, none⟩ = some (.int .i64 (foldK stepS (size n) m v.kids)) ∧ w'.frozen? ⟨b, 0, none⟩ = false ∧ w.grownBy w' (some b) := by
  obtain ⟨n', A1, c1, A2, c2, e, rfl, _, _, _, hl, ho, _, _, hL, hO⟩ := hv.open
  obtain rfl : n = n' := by omega
  have hcl := fun cs x W m (hx : VIn W B n cs x) (hbW : b < W.heap.size) (h1 : W.cell? ⟨b, 0, none⟩ = some (.int .i64 m)) (h2 : W.frozen? ⟨b, 0, none⟩ = false) => size_cl n ih cs x b B m W hx hB hbW h1 h2
  obtain ⟨M, hM⟩ : ∃ M, M = foldK stepS (size n) m v.kids := ⟨_, rfl⟩
  rw [← hM]
  have HCL := Lib.hid hcl
  have HL := Lib.hid hL
  have HO := Lib.hid hO
  obtain ⟨w1, hw1⟩ : ∃ w1, w.alloc (.cells #[.int .i64 v.k, .bool v.b, .int .i64 v.i, .string (bs v.s), .slice A1 v.l.length c1, .slice A2 v.o.length c2] 26) = w1 := ⟨_, rfl⟩
  have g1 : w.grownBy w1 (some b) := by rw [← hw1]; exact grown_of_below b ((Below.refl _ w).alloc (Nat.le_refl _) _)
  have hc1 : w1.cell? ⟨b, 0, none⟩ = some (.int .i64 m) := by rw [← hw1]; exact cell_alloc_d _ hc
  have hf1 : w1.frozen? ⟨b, 0, none⟩ = false := by rw [← hw1]; exact frozen_alloc_d _ hc hf
  have hkeep : Hid (∀ W, w.grownBy W (some b) → ∀ p : Addr, p.block < B → W.cell? p = w.cell? p) := fun W hW p hp => World.cell?_of_block (hW.block p.block (by omega) (fun e => by injection e with e; omega))
  have HW := Lib.hid hw1
  have hkid : v.kids = if v.k = 5 then v.l else if v.k = 6 then v.o.map (·.2) else [] := rfl
  rw [hkid] at hM
  have hsz : ∀ W, w.grownBy W (some b) → b < W.heap.size := fun W hW => Nat.lt_of_lt_of_le hb hW.size
  have HSZ := Lib.hid hsz
  clear hcl hL hO ih hv hc hf hw1 hkid hsz e
  by_cases k5 : v.k = 5
  · rw [if_pos k5] at hM
    have k5' : (v.k == 5) = true := by rw [k5]; rfl
    have HM := Lib.hid hM
    clear hM k5
    go_enter Tryd.func48, Tryd.ntmps48
    go_wp2_with fail
    rw [HW.out]
    go_loopw [15] (fun i wr => ∃ j : Nat, j ≤ v.l.length ∧ i = .int .i64 j ∧ w.grownBy wr (some b) ∧ wr.cell? ⟨b, 0, none⟩ = some (.int .i64 (foldK stepS (size n) m (v.l.take j))) ∧ wr.frozen? ⟨b, 0, none⟩ = false) (fun i _ => v.l.length - (intOf i).toNat)
    case atStart => exact ⟨0, Nat.zero_le _, rfl, g1, hc1, hf1⟩
    case round =>
      obtain ⟨j, hj, rfl, hg, hcr, hfr⟩ := hrel
      clear g1 hc1 hf1
      by_cases hlt : j < v.l.length
      · obtain ⟨x, hx⟩ : ∃ x, v.l[j]? = some x := ⟨_, List.getElem?_eq_getElem hlt⟩
        obtain ⟨g, p, ds, hA, hgB, hr, hxi⟩ := HL.out j x hx
        obtain ⟨_, B1, e1, B2, e2, -, rfl, -⟩ := hxi.open
        have hst := foldK_take stepS (size n) m v.l j x hx
        obtain ⟨a0, a1, a2, a3, a4, a5⟩ := range6 (w := wr) (fun i u hu => (hkeep.out wr hg ⟨g, p + j * 6 + i, none⟩ hgB).trans (hr i u hu))
        have b2 : Below wr.heap.size wr (wr.alloc (.cells #[.int .i64 x.k, .bool x.b, .int .i64 x.i, .string (bs x.s), .slice B1 x.l.length e1, .slice B2 x.o.length e2] 26)) := (Below.refl _ wr).alloc (Nat.le_refl _) _
        have hg2 := grown_then hg (grown_of_below b b2)
        have hbw := HSZ.out wr hg
        have cc := HCL.out _ x _ _ (hxi.keep (Nat.le_refl _) (hkeep.out _ hg2)) (HSZ.out _ hg2) (cell_alloc_d (.cells #[.int .i64 x.k, .bool x.b, .int .i64 x.i, .string (bs x.s), .slice B1 x.l.length e1, .slice B2 x.o.length e2] 26) hcr) (frozen_alloc_d _ hcr hfr)
        rw [← hst] at cc
        have HC := Lib.hid cc
        have HG2 := Lib.hid hg2
        subst hA
        clear cc hst hx hr hxi hg2 hcr hfr b2
        go_wp2_with fail
        refine HC.out.mono ?_
        rintro e w4 ⟨rfl, hc4, hf4, hg4⟩
        have hg5 := grown_then HG2.out hg4
        clear HC HG2 a0 a1 a2 a3 a4 a5
        go_wp2
        go_roundw
        case rel => exact ⟨j + 1, by omega, by go_num, hg5, hc4, hf4⟩
        case measure => simp [intOf]; omega
      · have hM2 : foldK stepS (size n) m (v.l.take j) = M := by rw [HM.out, List.take_of_length_le (by omega)]
        rw [hM2] at hcr
        clear hM2
        go_wp2
        go_end0
        exact ⟨rfl, hcr, hfr, hg⟩
  · rw [if_neg k5] at hM
    have k5' : (v.k == 5) = false := by simp [k5]
    by_cases k6 : v.k = 6
    · rw [if_pos k6] at hM
      have k6' : (v.k == 6) = true := by rw [k6]; rfl
      have HM := Lib.hid hM
      clear hM k6 k5
      go_enter Tryd.func48, Tryd.ntmps48
      go_wp2_with fail
      rw [HW.out]
      go_loopw [28] (fun i wr => ∃ j : Nat, j ≤ v.o.length ∧ i = .int .i64 j ∧ w.grownBy wr (some b) ∧ wr.cell? ⟨b, 0, none⟩ = some (.int .i64 (foldK stepS (size n) m ((v.o.map (·.2)).take j))) ∧ wr.frozen? ⟨b, 0, none⟩ = false) (fun i _ => v.o.length - (intOf i).toNat)
      case atStart => exact ⟨0, Nat.zero_le _, rfl, g1, hc1, hf1⟩
      case round =>
        obtain ⟨j, hj, rfl, hg, hcr, hfr⟩ := hrel
        clear g1 hc1 hf1
        by_cases hlt : j < v.o.length
        · obtain ⟨xm, hx⟩ : ∃ x, v.o[j]? = some x := ⟨_, List.getElem?_eq_getElem hlt⟩
          obtain ⟨g, p, ds, hA, hgB, hr, _, hxi⟩ := HO.out j xm hx
          have hx2 : (v.o.map (·.2))[j]? = some xm.2 := by rw [List.getElem?_map, hx]; rfl
          obtain ⟨xk, x⟩ := xm
          obtain ⟨_, B1, e1, B2, e2, -, rfl, -⟩ := hxi.open
          have hst := foldK_take stepS (size n) m (v.o.map (·.2)) j x hx2
          obtain ⟨a0, a1, a2, a3, a4, a5, a6⟩ := range7 (w := wr) (fun i u hu => (hkeep.out wr hg ⟨g, p + j * 7 + i, none⟩ hgB).trans (hr i u hu))
          have b2 : Below wr.heap.size wr (wr.alloc (.cells #[.string (bs xk), .int .i64 x.k, .bool x.b, .int .i64 x.i, .string (bs x.s), .slice B1 x.l.length e1, .slice B2 x.o.length e2] 46)) := (Below.refl _ wr).alloc (Nat.le_refl _) _
          have hg2 := grown_then hg (grown_of_below b b2)
          have hbw := HSZ.out wr hg
          have cc := HCL.out _ x _ _ (hxi.keep (Nat.le_refl _) (hkeep.out _ hg2)) (HSZ.out _ hg2) (cell_alloc_d (.cells #[.string (bs xk), .int .i64 x.k, .bool x.b, .int .i64 x.i, .string (bs x.s), .slice B1 x.l.length e1, .slice B2 x.o.length e2] 46) hcr) (frozen_alloc_d _ hcr hfr)
          rw [← hst] at cc
          have HC := Lib.hid cc
          have HG2 := Lib.hid hg2
          subst hA
          clear cc hst hx hx2 hr hxi hg2 hcr hfr b2
          go_wp2_with fail
          refine HC.out.mono ?_
          rintro e w4 ⟨rfl, hc4, hf4, hg4⟩
          have hg5 := grown_then HG2.out hg4
          clear HC HG2 a0 a1 a2 a3 a4 a5 a6
          go_wp2
          go_roundw
          case rel => exact ⟨j + 1, by omega, by go_num, hg5, hc4, hf4⟩
          case measure => simp [intOf]; omega
        · have hM2 : foldK stepS (size n) m ((v.o.map (·.2)).take j) = M := by rw [HM.out, List.take_of_length_le (by rw [List.length_map]; omega)]
          rw [hM2] at hcr
          clear hM2
          go_wp2
          go_end0
          exact ⟨rfl, hcr, hfr, hg⟩
    · rw [if_neg k6] at hM
      have k6' : (v.k == 6) = false := by simp [k6]
      have hM2 : m = M := by rw [hM]; rfl
      rw [hM2] at hc1
      clear hM k6 k5 hM2
      go_enter Tryd.func48, Tryd.ntmps48
      go_wp2_with fail
      rw [HW.out]
      go_wp2
      go_end0
      exact ⟨rfl, hc1, hf1, g1⟩

set_option maxHeartbeats 4000000 in
theorem size_any : ∀ (n : Nat) (cs : List Value) (v : Val) (w : World), VIn w w.heap.size n cs v → Calls Tryd.prog 24 #[.agg cs.toArray] w fun e w' => e = .returned (.int .i64 (size n v)) ∧ Below w.heap.size w w' := by
  intro n
  induction n with
  | zero => intro cs v w h; exact absurd h (by simp [VIn])
  | succ n ih =>
    intro cs v w hv
    obtain ⟨n', A1, c1, A2, c2, e, rfl, -⟩ := hv.open
    obtain ⟨q, hq⟩ : ∃ q, q = size (n + 1) v := ⟨_, rfl⟩
    rw [← hq]
    obtain ⟨q0, hq0⟩ : ∃ q0, q0 = foldK stepS (size n) 1 v.kids := ⟨_, rfl⟩
    have HE : Hid (q = q0) := by rw [hq, hq0]; rfl
    obtain ⟨cv, hcv⟩ : ∃ cv : List Value, cv = [.int .i64 v.k, .bool v.b, .int .i64 v.i, .string (bs v.s), .slice A1 v.l.length c1, .slice A2 v.o.length c2] := ⟨_, rfl⟩
    have b1 : Below w.heap.size w (w.alloc (.cells #[.int .i64 v.k, .bool v.b, .int .i64 v.i, .string (bs v.s), .slice A1 v.l.length c1, .slice A2 v.o.length c2] 26)) := (Below.refl _ w).alloc (Nat.le_refl _) _
    obtain ⟨w1, hw1⟩ : ∃ w1, w.alloc (.cells #[.int .i64 v.k, .bool v.b, .int .i64 v.i, .string (bs v.s), .slice A1 v.l.length c1, .slice A2 v.o.length c2] 26) = w1 := ⟨_, rfl⟩
    rw [hw1] at b1
    have z1 : w1.heap.size = w.heap.size + 1 := by rw [← hw1]; exact World.size_alloc _ _
    have b2 : Below w.heap.size w (w1.alloc (.cells #[.int .i64 1] 3)) := b1.alloc b1.size _
    have hn : ∃ o, (w1.alloc (.cells #[.int .i64 1] 3)).heap[w1.heap.size]? = some o ∧ o = .cells #[.int .i64 1] 3 (0, 0) := ⟨_, heap_alloc_new w1 _, rfl⟩
    obtain ⟨_, hn, rfl⟩ := hn
    have hE := size_each n ih _ v (w1.heap.size) w.heap.size 1 _ (hv.below b2 (Nat.le_refl _)) (by omega) (by rw [World.size_alloc]; omega) (cell_of_row _ _ 0 _ _ (0, 0) hn) (by unfold World.frozen?; rw [hn]; rfl)
    rw [← hq0] at hE
    have hbox : ∀ W, Below (w.heap.size + 1) w1 W → W.cell? ⟨w.heap.size, 0, none⟩ = some (.int .i64 v.k) ∧ W.cell? ⟨w.heap.size, 1, none⟩ = some (.bool v.b) ∧ W.cell? ⟨w.heap.size, 2, none⟩ = some (.int .i64 v.i) ∧ W.cell? ⟨w.heap.size, 3, none⟩ = some (.string (bs v.s)) ∧ W.cell? ⟨w.heap.size, 4, none⟩ = some (.slice A1 v.l.length c1) ∧ W.cell? ⟨w.heap.size, 5, none⟩ = some (.slice A2 v.o.length c2) := fun W hW => by
      rw [← hw1] at hW
      exact box6 hW
    have bb : Below (w.heap.size + 1) w1 (w1.alloc (.cells #[.int .i64 1] 3)) := (Below.refl _ w1).alloc (by omega) _
    obtain ⟨q0', q1, q2, q3, q4, q5⟩ := hbox _ bb
    have HW := Lib.hid hw1
    rw [z1] at hE
    have HE2 := Lib.hid hE
    have hfin : Hid (∀ W, (w1.alloc (.cells #[.int .i64 1] 3)).grownBy W (some (w.heap.size + 1)) → Below w.heap.size w W) := fun W hW => b2.grown hW (by rw [World.size_alloc]; omega) (fun k e => by injection e with e; omega)
    clear hw1 hE hbox bb hq hq0 hv ih e hn hcv cv
    go_enter Tryd.func24, Tryd.ntmps24
    go_wp2_with fail
    rw [HW.out]
    go_wp2_with fail
    (with_reducible refine HE2.out.mono ?_)
    rintro e w3 ⟨rfl, hc3, hf3, hg3⟩
    have b3 := hfin.out _ hg3
    go_wp2
    go_ret
    exact ⟨by rw [HE.out] <;> rfl, b3⟩
end Go.Proofs.YthaikagelloeoaaDoor
