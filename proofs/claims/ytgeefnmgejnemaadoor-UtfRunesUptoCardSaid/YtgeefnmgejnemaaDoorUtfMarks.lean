import Derived.Test.YtgeefnmgejnemaaDoorUtfEsc
namespace Go.Proofs.YtgeefnmgejnemaaDoor
open Go.RowKit Go.Maps
set_option linter.unusedSimpArgs false
set_option linter.unusedVariables false

def markD : DataW Unit := .map [(runeL 8, .lit (runeL 98)), (runeL 9, .lit (runeL 116)), (runeL 10, .lit (runeL 110)), (runeL 12, .lit (runeL 102)), (runeL 13, .lit (runeL 114)), (runeL 34, .lit (runeL 34)), (runeL 92, .lit (runeL 92))]
/-- The letter of a rune that has one. -/
def letter (c : Int) : Int := if c = 34 then 34 else if c = 92 then 92 else if c = 8 then 98 else if c = 12 then 102 else if c = 10 then 110 else if c = 13 then 114 else if c = 9 then 116 else 0
def letK : Lit → Lit
  | .int .i32 c => runeL (letter c)
  | x => x
theorem mark_cases {k : Lit} (h : Maps.has markD k = true) : k = runeL 8 ∨ k = runeL 9 ∨ k = runeL 10 ∨ k = runeL 12 ∨ k = runeL 13 ∨ k = runeL 34 ∨ k = runeL 92 := by
  simp only [Maps.has, markD, List.any_cons, List.any_nil, Bool.or_false, Bool.or_eq_true] at h
  rcases h with h | h | h | h | h | h | h
  all_goals (have e := WideAt.sameKey_eq h; subst e; simp)
theorem esc_cases {x c : Int} (h : ∀ zd, escD.atKey (.int .i32 x) zd = .lit (.int .i32 c)) : (x = 34 ∧ c = 34) ∨ (x = 47 ∧ c = 47) ∨ (x = 92 ∧ c = 92) ∨ (x = 98 ∧ c = 8) ∨ (x = 102 ∧ c = 12) ∨ (x = 110 ∧ c = 10) ∨ (x = 114 ∧ c = 13) ∨ (x = 116 ∧ c = 9) := by
  have h0 := h .nil
  have hne : ∀ a : Int, a ≠ x → (runeL a).sameKey (.int .i32 x) = false := fun a ha => Maps.sameKey_ne (fun e => ha (by unfold runeL at e; injection e))
  simp only [DataW.atKey, escD, List.find?] at h0
  by_cases e1 : (34 : Int) = x
  · subst e1; have : (Lit.int .i32 34 : Lit) = .int .i32 c := by injection h0
    injection this with _ h; omega
  rw [hne _ e1] at h0
  by_cases e2 : (47 : Int) = x
  · subst e2; have : (Lit.int .i32 47 : Lit) = .int .i32 c := by injection h0
    injection this with _ h; omega
  rw [hne _ e2] at h0
  by_cases e3 : (92 : Int) = x
  · subst e3; have : (Lit.int .i32 92 : Lit) = .int .i32 c := by injection h0
    injection this with _ h; omega
  rw [hne _ e3] at h0
  by_cases e4 : (98 : Int) = x
  · subst e4; have : (Lit.int .i32 8 : Lit) = .int .i32 c := by injection h0
    injection this with _ h; omega
  rw [hne _ e4] at h0
  by_cases e5 : (102 : Int) = x
  · subst e5; have : (Lit.int .i32 12 : Lit) = .int .i32 c := by injection h0
    injection this with _ h; omega
  rw [hne _ e5] at h0
  by_cases e6 : (110 : Int) = x
  · subst e6; have : (Lit.int .i32 10 : Lit) = .int .i32 c := by injection h0
    injection this with _ h; omega
  rw [hne _ e6] at h0
  by_cases e7 : (114 : Int) = x
  · subst e7; have : (Lit.int .i32 13 : Lit) = .int .i32 c := by injection h0
    injection this with _ h; omega
  rw [hne _ e7] at h0
  by_cases e8 : (116 : Int) = x
  · subst e8; have : (Lit.int .i32 9 : Lit) = .int .i32 c := by injection h0
    injection this with _ h; omega
  rw [hne _ e8] at h0
  cases h0
/-- What has been laid in, as long as some are to come. -/
def Inv (D : DataW Unit) (left : Lit → Bool) : Prop := IsMap D ∧ (∀ k, Maps.has D k = (Maps.has markD k && !left (letK k))) ∧ ∀ k z, Maps.has D k = true → D.atKey k z = markD.atKey k z
theorem inv_start : Inv (.map []) (Maps.has escD) := by
  refine ⟨isMap_empty, fun k => ?_, fun k z h => by cases h⟩
  cases hk : Maps.has markD k
  · rfl
  · rcases mark_cases hk with rfl | rfl | rfl | rfl | rfl | rfl | rfl <;> rfl
theorem inv_skip {D : DataW Unit} {left : Lit → Bool} (h : Inv D left) : Inv D (fun z => left z && !z.sameKey (.int .i32 47)) := by
  refine ⟨h.1, fun k => ?_, h.2.2⟩
  rw [h.2.1 k]
  cases hk : Maps.has markD k
  · rfl
  · have e : (letK k).sameKey (.int .i32 47) = false := by
      rcases mark_cases hk with rfl | rfl | rfl | rfl | rfl | rfl | rfl <;> rfl
    simp [e]
theorem inv_put {D : DataW Unit} {left : Lit → Bool} (h : Inv D left) {x c : Int} (hp : (x = 34 ∧ c = 34) ∨ (x = 92 ∧ c = 92) ∨ (x = 98 ∧ c = 8) ∨ (x = 102 ∧ c = 12) ∨ (x = 110 ∧ c = 10) ∨ (x = 114 ∧ c = 13) ∨ (x = 116 ∧ c = 9)) : Inv (putR D c x) (fun z => left z && !z.sameKey (.int .i32 x)) := by
  have hm : Maps.has markD (.int .i32 c) = true ∧ letK (.int .i32 c) = .int .i32 x ∧ (∀ z, markD.atKey (.int .i32 c) z = .lit (.int .i32 x)) ∧ ∀ k, Maps.has markD k = true → k ≠ .int .i32 c → (letK k).sameKey (.int .i32 x) = false := by
    rcases hp with ⟨rfl, rfl⟩ | ⟨rfl, rfl⟩ | ⟨rfl, rfl⟩ | ⟨rfl, rfl⟩ | ⟨rfl, rfl⟩ | ⟨rfl, rfl⟩ | ⟨rfl, rfl⟩
    all_goals
      refine ⟨rfl, rfl, fun z => rfl, fun k hk hne => ?_⟩
      rcases mark_cases hk with rfl | rfl | rfl | rfl | rfl | rfl | rfl <;> first | rfl | exact absurd rfl hne
  obtain ⟨h1, h2, h3, h4⟩ := hm
  have hk : WideAt.IsKeyLit (.int .i32 c) := by simp [WideAt.IsKeyLit]
  have hkx : WideAt.IsKeyLit (.int .i32 x) := by simp [WideAt.IsKeyLit]
  refine ⟨h.1.put _ _, fun k => ?_, fun k z hh => ?_⟩
  · by_cases e : k = .int .i32 c
    · subst e
      unfold putR
      rw [has_put_same h.1 hk, h1, h2]
      simp only
      rw [WideAt.sameKey_self hkx]
      simp
    · unfold putR
      rw [has_put_other e, h.2.1 k]
      cases hkm : Maps.has markD k
      · rfl
      · simp only
        rw [h4 k hkm e]
        simp
  · by_cases e : k = .int .i32 c
    · subst e
      unfold putR
      rw [atKey_put_same h.1 hk, h3]
    · unfold putR at hh ⊢
      rw [has_put_other e] at hh
      rw [atKey_put_other e, h.2.2 k z hh]
theorem inv_end {D : DataW Unit} {left : Lit → Bool} (h : Inv D left) (hl : ∀ k, left k = false) (c₁ : Canon D) : D = markD := by
  have c₂ : Canon markD := by
    refine ⟨_, rfl, ?_, ?_⟩
    · decide
    · intro p hp
      simp only [List.mem_cons, List.not_mem_nil, or_false] at hp
      rcases hp with rfl | rfl | rfl | rfl | rfl | rfl | rfl <;> simp [WideAt.IsKeyLit, runeL]
  exact Maps.ext c₁ c₂ (fun k => by rw [h.2.1, hl]; simp) h.2.2
/-- The marks, in a map of their own. -/
def MarkMap (w : World) (e : Ending) (w' : World) : Prop := e = .returned (.map (some w.heap.size)) ∧ RuneMap w' w.heap.size 8 markD ∧ Below w.heap.size w w'
set_option maxRecDepth 100000 in
set_option maxHeartbeats 2000000 in
theorem marks_any (w : World) : Calls Tryd.prog 26 #[] w (MarkMap w) := by
  have hmm := @run_makeMap Tryd.prog
  have o0 : RuneMap (w.alloc (.map #[] 0)) w.heap.size 0 (.map []) := World.ownsMap_made _ _ _ _
  obtain ⟨w0, hw0⟩ : ∃ w0, w.alloc (.map #[] 0) = w0 := ⟨_, rfl⟩
  have b0 : Below w.heap.size w w0 := by rw [← hw0]; exact (Below.refl _ w).alloc (Nat.le_refl _) _
  have z0 : w.heap.size < w0.heap.size := by rw [← hw0]; simp
  rw [hw0] at o0
  have HC := Lib.hid (esc_any w0)
  go_enter Tryd.func26, Tryd.ntmps26
  go_wp2_with fail
  ((with_reducible refine HC.out.mono ?_); rintro e w1 ⟨rfl, oe, b1⟩)
  clear hw0 hmm HC
  have s1 := b1.size
  have o1 : RuneMap w1 w.heap.size 0 (.map []) := World.ownsMap.kept o0 (⟨b1.os, b1.tape, b1.output, b1.size, fun k hk _ => b1.block k hk⟩ : w0.grownBy w1 none) (by simp)
  have k1 : Below w.heap.size w w1 := b0.trans (b1.mono (by omega))
  clear b0 b1 o0
  go_wp2_with (first
    | (at_range; refine wpList_range_own _ rfl _ 50 rfl 21 21 runeLaw Tryd.underlying50 _ w0.heap.size 8 _ rfl oe ?_; intro w2 hrg0 hg0 hs0)
    | go_in)
  go_frame
  go_loopw [2] (fun _ wr => ∃ (left : Lit → Bool) (cnt : Nat) (D : DataW Unit), wr.ranges Tryd.prog 21 (plainElem Tryd.prog 21) w0.heap.size w1.heap.size 8 escD left cnt ∧ cnt ≤ 8 ∧
      RuneMap wr w.heap.size (8 - cnt) D ∧ Hid (Inv D left) ∧ Below w.heap.size w wr)
    (fun _ wr => wr.rangeLeft w0.heap.size w1.heap.size)
  case atStart =>
    exact ⟨_, 8, .map [], hrg0, Nat.le_refl _, World.ownsMap.kept o1 hg0 (by simp), inv_start, k1.grown hg0 k1.size (fun j hj => by cases hj)⟩
  case round =>
    obtain ⟨left, cnt, D, hrg, hcs, hout, hA, hnx⟩ := hrel
    go_wp2_with (first
      | (at_next; refine wpList_next_ranges_ii _ rfl _ rfl 21 21 .i32 .i32 runeLaw Tryd.underlying21 Tryd.underlying21 w0.heap.size w1.heap.size 8 _ _ _ rfl hrg ?_ ?_)
      | go_in)
    · intro hc0 hl0
      subst hc0
      have e := inv_end hA.out hl0 (World.ownsMap.canon hout runeLaw)
      subst e
      have HF : Hid (MarkMap w (.returned (.map (some w.heap.size))) wr) := ⟨rfl, hout, hnx⟩
      clear hout hnx hA hrg
      go_wp2
      go_ret
      exact HF.out
    · intro x c w3 cnt1 hwx hwc hlx hat hrg1 hlt hg1 hs1 hen
      have hout1 : RuneMap w3 w.heap.size (8 - cnt) D := World.ownsMap.kept hout hg1 (fun e => by have := Option.some.inj e; omega)
      have hnx1 : Below w.heap.size w w3 := hnx.grown hg1 hnx.size (fun j hj => by cases hj; omega)
      have hp := esc_cases hat
      by_cases hc47 : c = 47
      · obtain ⟨rfl, rfl⟩ : x = 47 ∧ c = 47 := by omega
        have HA := Lib.hid (inv_skip hA.out)
        clear hA hat hp hlx
        go_wp2
        go_roundw
        case rel => exact ⟨_, cnt1, D, hrg1, by omega, World.ownsMap.mono hout1 (by omega), HA, hnx1⟩
        case measure => rw [hrg1.left_eq, hrg.left_eq]; exact hlt
      · have HA := Lib.hid (inv_put hA.out (x := x) (c := c) (by omega))
        have hne : (c != 47) = true := by rw [bne_iff_ne]; exact hc47
        clear hA hat hp hlx
        go_wp2_with (first
          | (at_mapUpdate; refine wpList_mapUpdate_own _ rfl _ _ _ 50 rfl 21 21 runeLaw Tryd.underlying50 _ w.heap.size _ _ rfl hout1 (by unfold maxLen; omega) _ _ _ rfl rfl (keyOf_int_mk Tryd.underlying21 hwc) _ [] (plainElem_int Tryd.underlying21 hwx) ?_; intro w4 hout2 hg2; go_frame)
          | go_in)
        have hrg2 := hrg1.kept hg2 (fun e => by have := Option.some.inj e; omega) (fun e => by have := Option.some.inj e; omega)
        go_roundw
        case rel => exact ⟨_, cnt1, _, hrg2, by omega, World.ownsMap.mono hout2 (by omega), HA, hnx1.grown hg2 hnx1.size (fun j hj => by cases hj; exact Nat.le_refl _)⟩
        case measure => rw [hrg2.left_eq, hrg.left_eq]; exact hlt
end Go.Proofs.YtgeefnmgejnemaaDoor
