import Derived.Test.YthaikagelloeoaaDoorValCopy
import Derived.Test.YthaikagelloeoaaDoorValChain
namespace Go.Proofs.YthaikagelloeoaaDoor
open Go.RowKit Val
set_option linter.unusedSimpArgs false
set_option linter.unusedVariables false

def zeroV : Val := .mk 0 false 0 [] [] []
def zeroCs : List Value := [.int .i64 0, .bool false, .int .i64 0, .string ⟨#[]⟩, .slice none 0 0, .slice none 0 0]
theorem vo_zero (w : World) (S : Nat → Prop) (n : Nat) : VO w S (n + 1) zeroCs zeroV :=
  ⟨none, 0, none, 0, rfl, ⟨by decide, by decide⟩, ⟨by decide, by decide⟩, by decide, by decide, by decide, by decide, by decide, fun j x h => by simp [zeroV, Val.l] at h, fun j x h => by simp [zeroV, Val.o] at h⟩
/-- The value of the first member of that key. -/
def findM (key : List UInt8) : List (List UInt8 × Val) → Option Val
  | [] => none
  | (k, v) :: r => if k = key then some v else findM key r
def memS (v : Val) (key : List UInt8) : Val × Int := if v.k = 6 then (match findM key v.o with | some x => (x, 0) | none => (zeroV, 12)) else (zeroV, 9)
theorem findM_drop (key : List UInt8) (l : List (List UInt8 × Val)) (j : Nat) (m : List UInt8 × Val) (h : l[j]? = some m) : findM key (l.drop j) = if m.1 = key then some m.2 else findM key (l.drop (j + 1)) := by
  have hj := (List.getElem?_eq_some_iff.1 h).1
  have e : l[j] = m := (List.getElem?_eq_some_iff.1 h).2
  rw [List.drop_eq_getElem_cons hj, e]
  rfl
/-- A value and an error are handed back. -/
def MemberOwn (w : World) (n : Nat) (x : Val × Int) (e : Ending) (w' : World) : Prop := ∃ cs, e = .returned (.tuple #[.agg cs.toArray, .int .i64 x.2]) ∧ VO w' (Span w.heap.size w'.heap.size none) n cs x.1 ∧ Below w.heap.size w w'
def MemberIn (w : World) (n : Nat) (x : Val × Int) (e : Ending) (w' : World) : Prop := ∃ cs, e = .returned (.tuple #[.agg cs.toArray, .int .i64 x.2]) ∧ VIn w' w'.heap.size n cs x.1 ∧ Below w.heap.size w w'
theorem bs_beq (a b : List UInt8) : ((bs a).toList == (bs b).toList) = decide (a = b) := by
  rw [bs_eql]
  by_cases h : a = b <;> simp [h]

set_option maxRecDepth 100000 in
set_option maxHeartbeats 8000000 in
theorem member_any (n : Nat) (cs : List Value) (v : Val) (key : List UInt8) (w : World) (hv : VIn w w.heap.size (n + 1) cs v) (hf : Fit (n + 1) v) :
    Calls Tryd.prog 29 #[.agg cs.toArray, .string (bs key)] w (MemberOwn w (n + 1) (memS v key)) := by
  obtain ⟨n', A1, c1, A2, c2, e, rfl, hk, hi, hs, hl, ho, hc1, hc2, hL, hO⟩ := hv.open
  obtain rfl : n = n' := by omega
  obtain ⟨w1, hw1⟩ : ∃ w1, (w.alloc (.cells #[.int .i64 v.k, .bool v.b, .int .i64 v.i, .string (bs v.s), .slice A1 v.l.length c1, .slice A2 v.o.length c2] 26)).alloc (.cells #[.int .i64 0, .bool false, .int .i64 0, .string ⟨#[]⟩, .slice none 0 0, .slice none 0 0] 26) = w1 := ⟨_, rfl⟩
  have b1 : Below w.heap.size w w1 := by rw [← hw1]; exact ((Below.refl _ w).alloc (Nat.le_refl _) _).alloc (by simp) _
  have z1 : w1.heap.size = w.heap.size + 2 := by rw [← hw1]; simp
  have hbox : Hid (∀ W, Below w1.heap.size w1 W → _) := fun W hW => by
    rw [z1, ← hw1] at hW
    exact box66f hW
  have hfin : Hid (∀ W, Below w1.heap.size w1 W → Below w.heap.size w W) := fun W hW => bthen b1 hW
  have hHF := Lib.hid hf.2.2.2
  have HO := Lib.hid hO
  obtain ⟨r, hr⟩ : ∃ r, r = memS v key := ⟨_, rfl⟩
  rw [← hr]
  by_cases h6 : v.k = 6
  · have h6' : (v.k != 6) = false := by simp [h6]
    have hr2 : r = (match findM key (v.o.drop 0) with | some x => (x, 0) | none => (zeroV, 12)) := by rw [hr, memS, if_pos h6]; rfl
    have HR := Lib.hid hr2
    obtain ⟨⟨q0, q1, q2, q3, q4, q5⟩, -, -⟩ := hbox.out w1 (Below.refl _ _)
    have HW := Lib.hid hw1
    clear hv hf hL hO hw1 hr hr2 h6 e
    go_enter Tryd.func29, Tryd.ntmps29
    go_wp2_with fail
    rw [HW.out]
    go_loopw [15] (fun i wr => ∃ j : Nat, j ≤ v.o.length ∧ i = .int .i64 j ∧ Below w1.heap.size w1 wr ∧ Hid (r = (match findM key (v.o.drop j) with | some x => (x, 0) | none => (zeroV, 12)))) (fun i _ => v.o.length - (intOf i).toNat)
    case atStart => exact ⟨0, Nat.zero_le _, rfl, Below.refl _ _, HR⟩
    case round =>
      obtain ⟨j, hj, rfl, hb, HJ⟩ := hrel
      clear HR q0 q1 q2 q3 q4 q5
      by_cases hlt : j < v.o.length
      · obtain ⟨x, hx⟩ : ∃ x, v.o[j]? = some x := ⟨_, List.getElem?_eq_getElem hlt⟩
        obtain ⟨g, p, ds, hA, hg, hr, hkl, hxi⟩ := HO.out j x hx
        have hd := findM_drop key v.o j x hx
        have hfx := hHF.out x (List.mem_of_getElem? hx)
        obtain ⟨xk, x⟩ := x
        have HI := Lib.hid fun W (hW : Below w1.heap.size w1 W) => copy_any n ds x W (hxi.then (hfin.out W hW)) hfx
        obtain ⟨_, B1, e1, B2, e2, -, rfl, -⟩ := hxi.open
        obtain ⟨a0, a1, a2, a3, a4, a5, a6⟩ := range7 (w := wr) (fun i u hu => ((hfin.out wr hb).cell (p := ⟨g, p + j * 7 + i, none⟩) hg).trans (hr i u hu))
        have bb : Below w1.heap.size w1 (wr.alloc (.cells #[.string (bs xk), .int .i64 x.k, .bool x.b, .int .i64 x.i, .string (bs x.s), .slice B1 x.l.length e1, .slice B2 x.o.length e2] 46)) := hb.alloc hb.size _
        subst hA
        by_cases hke : xk = key
        · have HE := Lib.hid (show r = (x, 0) by rw [HJ.out, hd, if_pos hke])
          have hkb : ((bs xk).toList == (bs key).toList) = true := by rw [bs_beq]; simp [hke]
          clear hx hr hxi hkl hd hfx hke HJ
          go_wp2_with fail
          ((with_reducible refine (HI.out _ bb).mono ?_); rintro e w4 ⟨ca, rfl, hvo, b4⟩)
          obtain ⟨_, B3, e3, B4, e4, -, rfl⟩ := hvo.open
          have k4 := bthen bb b4
          obtain ⟨-, ⟨p0, p1, p2, p3, p4, p5⟩, hfz⟩ := hbox.out w4 k4
          have hf2 := fun o => hfz (w.heap.size + 1) o (.inr rfl)
          have HV := Lib.hid hvo
          have hzz := bb.size
          clear a0 a1 a2 a3 a4 a5 a6 hvo hfz HI bb
          go_wp2
          have hne : ∀ g', Span (wr.alloc (.cells #[.string (bs xk), .int .i64 x.k, .bool x.b, .int .i64 x.i, .string (bs x.s), .slice B1 x.l.length e1, .slice B2 x.o.length e2] 46)).heap.size w4.heap.size none g' → g' ≠ w.heap.size + 1 := fun g' hg' => by have := hg'.1; omega
          have hw : w.heap.size ≤ w.heap.size + 1 := by omega
          refine bodyPost_ret (v := .tuple #[.agg #[.int .i64 x.k, .bool x.b, .int .i64 x.i, .string (bs x.s), .slice B3 x.l.length e3, .slice B4 x.o.length e4], .int .i64 0]) (by simp [results, Tryd.results29, go_sem, p0, p1, p2, p3, p4, p5]) rfl ⟨[.int .i64 x.k, .bool x.b, .int .i64 x.i, .string (bs x.s), .slice B3 x.l.length e3, .slice B4 x.o.length e4], by rw [HE.out] <;> rfl, ?_, ?_⟩
          · rw [HE.out]
            refine (HV.out.mono (Nat.le_succ n)).keep (fun g' hg' => ⟨?_, ?_, hg'.2.2⟩) ((((((SameAt.set (SameAt.refl _ _) hne _).set hne _).set hne _).set hne _).set hne _).set hne _)
            · have h1 := hg'.1
              omega
            · have h1 := hg'.2.1
              simpa [World.setCell] using h1
          · exact (((((((hfin.out _ k4).setCell hw _).setCell hw _).setCell hw _).setCell hw _).setCell hw _).setCell hw _)
        · have HE := Lib.hid (show r = (match findM key (v.o.drop (j + 1)) with | some x => (x, 0) | none => (zeroV, 12)) by rw [HJ.out, hd, if_neg hke])
          have hkb : ((bs xk).toList == (bs key).toList) = false := by rw [bs_beq]; simp [hke]
          clear hx hr hxi hkl hd hfx hke HJ HI
          go_wp2
          go_roundw
          case rel => exact ⟨j + 1, by omega, by go_num, bb, HE⟩
          case measure => simp [intOf]; omega
      · have HE := Lib.hid (show r = (zeroV, 12) by rw [HJ.out, List.drop_eq_nil_of_le (by omega)]; rfl)
        obtain ⟨-, ⟨p0, p1, p2, p3, p4, p5⟩, hfz⟩ := hbox.out wr hb
        have hf2 := fun o => hfz (w.heap.size + 1) o (.inr rfl)
        clear hfz HJ
        go_wp2
        have hw : w.heap.size ≤ w.heap.size + 1 := by omega
        refine bodyPost_ret (v := .tuple #[.agg #[.int .i64 0, .bool false, .int .i64 0, .string ⟨#[]⟩, .slice none 0 0, .slice none 0 0], .int .i64 12]) (by simp [results, Tryd.results29, go_sem, p0, p1, p2, p3, p4, p5]) rfl ⟨zeroCs, by rw [HE.out] <;> rfl, by rw [HE.out]; exact vo_zero _ _ _, ?_⟩
        exact (((((((hfin.out _ hb).setCell hw _).setCell hw _).setCell hw _).setCell hw _).setCell hw _).setCell hw _)
  · have h6' : (v.k != 6) = true := by simp [h6]
    have HE := Lib.hid (show r = (zeroV, 9) by rw [hr, memS, if_neg h6])
    obtain ⟨⟨q0, q1, q2, q3, q4, q5⟩, ⟨p0, p1, p2, p3, p4, p5⟩, hfz⟩ := hbox.out w1 (Below.refl _ _)
    have hf2 := fun o => hfz (w.heap.size + 1) o (.inr rfl)
    clear hv hf hL hO hr h6 e hfz
    go_enter Tryd.func29, Tryd.ntmps29
    go_wp2
    have hw : w.heap.size ≤ w.heap.size + 1 := by omega
    refine bodyPost_ret (v := .tuple #[.agg #[.int .i64 0, .bool false, .int .i64 0, .string ⟨#[]⟩, .slice none 0 0, .slice none 0 0], .int .i64 9]) (by simp [results, Tryd.results29, go_sem, p0, p1, p2, p3, p4, p5]) rfl ⟨zeroCs, by rw [HE.out] <;> rfl, by rw [HE.out]; exact vo_zero _ _ _, ?_⟩
    exact ((((((b1.setCell hw _).setCell hw _).setCell hw _).setCell hw _).setCell hw _).setCell hw _)

set_option maxRecDepth 100000 in
set_option maxHeartbeats 8000000 in
theorem refMember_any (n : Nat) (cs : List Value) (v : Val) (key : List UInt8) (w : World) (hv : VIn w w.heap.size (n + 1) cs v) :
    Calls Tryd.prog 30 #[.agg cs.toArray, .string (bs key)] w (MemberIn w (n + 1) (memS v key)) := by
  obtain ⟨n', A1, c1, A2, c2, e, rfl, hk, hi, hs, hl, ho, hc1, hc2, hL, hO⟩ := hv.open
  obtain rfl : n = n' := by omega
  obtain ⟨w1, hw1⟩ : ∃ w1, (w.alloc (.cells #[.int .i64 v.k, .bool v.b, .int .i64 v.i, .string (bs v.s), .slice A1 v.l.length c1, .slice A2 v.o.length c2] 26)).alloc (.cells #[.int .i64 0, .bool false, .int .i64 0, .string ⟨#[]⟩, .slice none 0 0, .slice none 0 0] 26) = w1 := ⟨_, rfl⟩
  have b1 : Below w.heap.size w w1 := by rw [← hw1]; exact ((Below.refl _ w).alloc (Nat.le_refl _) _).alloc (by simp) _
  have z1 : w1.heap.size = w.heap.size + 2 := by rw [← hw1]; simp
  have hbox : Hid (∀ W, Below w1.heap.size w1 W → _) := fun W hW => by
    rw [z1, ← hw1] at hW
    exact box66f hW
  have HO := Lib.hid hO
  obtain ⟨r, hr⟩ : ∃ r, r = memS v key := ⟨_, rfl⟩
  rw [← hr]
  have hw : w.heap.size ≤ w.heap.size + 1 := by omega
  obtain ⟨⟨q0, q1, q2, q3, q4, q5⟩, ⟨p0, p1, p2, p3, p4, p5⟩, hfz⟩ := hbox.out w1 (Below.refl _ _)
  have hf2 := fun o => hfz (w.heap.size + 1) o (.inr rfl)
  have hz1 : w.heap.size + 1 < w1.heap.size := by omega
  have hset : Hid (∀ a b c d e f : Value, Below w.heap.size w ((((((w1.setCell ⟨w.heap.size + 1, 0, none⟩ a).setCell ⟨w.heap.size + 1, 1, none⟩ b).setCell ⟨w.heap.size + 1, 2, none⟩ c).setCell ⟨w.heap.size + 1, 3, none⟩ d).setCell ⟨w.heap.size + 1, 4, none⟩ e).setCell ⟨w.heap.size + 1, 5, none⟩ f)) := fun a b c d e f =>
    ((((((b1.setCell hw _).setCell hw _).setCell hw _).setCell hw _).setCell hw _).setCell hw _)
  by_cases h6 : v.k = 6
  · have h6' : (v.k != 6) = false := by simp [h6]
    have hr2 : r = (match findM key (v.o.drop 0) with | some x => (x, 0) | none => (zeroV, 12)) := by rw [hr, memS, if_pos h6]; rfl
    have HR := Lib.hid hr2
    have HW := Lib.hid hw1
    clear hv hL hO hw1 hr hr2 h6 e hfz
    go_enter Tryd.func30, Tryd.ntmps30
    go_wp2_with fail
    rw [HW.out]
    go_loop [6] (fun i => ∃ j : Nat, j ≤ v.o.length ∧ i = .int .i64 j ∧ Hid (r = (match findM key (v.o.drop j) with | some x => (x, 0) | none => (zeroV, 12)))) (fun i => v.o.length - (intOf i).toNat)
    case atStart => exact ⟨0, Nat.zero_le _, rfl, HR⟩
    case round =>
      obtain ⟨j, hj, rfl, HJ⟩ := hrel
      clear HR
      by_cases hlt : j < v.o.length
      · obtain ⟨x, hx⟩ : ∃ x, v.o[j]? = some x := ⟨_, List.getElem?_eq_getElem hlt⟩
        obtain ⟨g, p, ds, hA, hg, hr, hkl, hxi⟩ := HO.out j x hx
        have hd := findM_drop key v.o j x hx
        obtain ⟨xk, x⟩ := x
        have HX := Lib.hid hxi
        obtain ⟨_, B1, e1, B2, e2, -, rfl, -⟩ := hxi.open
        obtain ⟨a0, a1, a2, a3, a4, a5, a6⟩ := range7 (w := w1) (fun i u hu => (b1.cell (p := ⟨g, p + j * 7 + i, none⟩) hg).trans (hr i u hu))
        subst hA
        by_cases hke : xk = key
        · have HE := Lib.hid (show r = (x, 0) by rw [HJ.out, hd, if_pos hke])
          have hkb : ((bs xk).toList == (bs key).toList) = true := by rw [bs_beq]; simp [hke]
          clear hx hr hxi hkl hd hke HJ
          go_wp2
          refine bodyPost_ret (v := .tuple #[.agg #[.int .i64 x.k, .bool x.b, .int .i64 x.i, .string (bs x.s), .slice B1 x.l.length e1, .slice B2 x.o.length e2], .int .i64 0]) (by simp [results, Tryd.results30, go_sem, p0, p1, p2, p3, p4, p5]) rfl ⟨[.int .i64 x.k, .bool x.b, .int .i64 x.i, .string (bs x.s), .slice B1 x.l.length e1, .slice B2 x.o.length e2], by rw [HE.out] <;> rfl, ?_, hset.out _ _ _ _ _ _⟩
          rw [HE.out]
          exact (HX.out.mono (Nat.le_succ n)).then (hset.out _ _ _ _ _ _)
        · have HE := Lib.hid (show r = (match findM key (v.o.drop (j + 1)) with | some x => (x, 0) | none => (zeroV, 12)) by rw [HJ.out, hd, if_neg hke])
          have hkb : ((bs xk).toList == (bs key).toList) = false := by rw [bs_beq]; simp [hke]
          clear hx hr hxi hkl hd hke HJ HX
          go_wp2
          go_round
          case rel => exact ⟨j + 1, by omega, by go_num, HE⟩
          case measure => simp [intOf]; omega
      · have HE := Lib.hid (show r = (zeroV, 12) by rw [HJ.out, List.drop_eq_nil_of_le (by omega)]; rfl)
        clear HJ
        go_wp2
        refine bodyPost_ret (v := .tuple #[.agg #[.int .i64 0, .bool false, .int .i64 0, .string ⟨#[]⟩, .slice none 0 0, .slice none 0 0], .int .i64 12]) (by simp [results, Tryd.results30, go_sem, p0, p1, p2, p3, p4, p5]) rfl ⟨zeroCs, by rw [HE.out] <;> rfl, by rw [HE.out]; exact (vo_zero _ (fun _ => False) _).vin (fun _ h => h.elim), hset.out _ _ _ _ _ _⟩
  · have h6' : (v.k != 6) = true := by simp [h6]
    have HE := Lib.hid (show r = (zeroV, 9) by rw [hr, memS, if_neg h6])
    clear hv hL hO hr h6 e hfz
    go_enter Tryd.func30, Tryd.ntmps30
    go_wp2
    refine bodyPost_ret (v := .tuple #[.agg #[.int .i64 0, .bool false, .int .i64 0, .string ⟨#[]⟩, .slice none 0 0, .slice none 0 0], .int .i64 9]) (by simp [results, Tryd.results30, go_sem, p0, p1, p2, p3, p4, p5]) rfl ⟨zeroCs, by rw [HE.out] <;> rfl, by rw [HE.out]; exact (vo_zero _ (fun _ => False) _).vin (fun _ h => h.elim), hset.out _ _ _ _ _ _⟩
end Go.Proofs.YthaikagelloeoaaDoor
