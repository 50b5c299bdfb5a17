/- What spoils a value leaves all but its own blocks. -/
import Derived.Test.YthaikagelloeoaaDoorValOwn
import Derived.Deep.RegionHeld3
namespace Go.Proofs.YthaikagelloeoaaDoor
open Go.RowKit Val
set_option linter.unusedSimpArgs false
set_option linter.unusedVariables false

def spoilt : List UInt8 := [115, 112, 111, 105, 108, 116]
/-- What a cell may become. -/
def sim (a b : Value) : Prop := b = a ∨ (∃ x, a = .int .i64 x ∧ b = .int .i64 9) ∨ (∃ s, a = .string s ∧ b = .string (bs spoilt))
theorem sim.trans {a b c : Value} (h : sim a b) (k : sim b c) : sim a c := by
  rcases h with rfl | ⟨x, rfl, rfl⟩ | ⟨s, rfl, rfl⟩
  · exact k
  · rcases k with rfl | ⟨y, _, rfl⟩ | ⟨t, h, _⟩
    · exact .inr (.inl ⟨x, rfl, rfl⟩)
    · exact .inr (.inl ⟨x, rfl, rfl⟩)
    · cases h
  · rcases k with rfl | ⟨y, h, _⟩ | ⟨t, _, rfl⟩
    · exact .inr (.inr ⟨s, rfl, rfl⟩)
    · cases h
    · exact .inr (.inr ⟨s, rfl, rfl⟩)
structure Sim (S : Nat → Prop) (w w' : World) : Prop where
  os : w'.os = w.os
  tape : w'.tape = w.tape
  output : w'.output = w.output
  size : w.heap.size ≤ w'.heap.size
  block : ∀ k, k < w.heap.size → ¬ S k → w'.heap[k]? = w.heap[k]?
  cell : ∀ p a, w.cell? p = some a → ∃ b, w'.cell? p = some b ∧ sim a b
  frz : ∀ p a, w.cell? p = some a → w'.frozen? p = w.frozen? p
theorem Sim.refl (S : Nat → Prop) (w : World) : Sim S w w := ⟨rfl, rfl, rfl, Nat.le_refl _, fun _ _ _ => rfl, fun _ a h => ⟨a, h, .inl rfl⟩, fun _ _ _ => rfl⟩
theorem Sim.trans {S : Nat → Prop} {a b c : World} (h : Sim S a b) (k : Sim S b c) : Sim S a c :=
  ⟨k.os.trans h.os, k.tape.trans h.tape, k.output.trans h.output, Nat.le_trans h.size k.size, fun i hi hn => (k.block i (Nat.lt_of_lt_of_le hi h.size) hn).trans (h.block i hi hn),
   fun p x hx => by
    obtain ⟨y, hy, h1⟩ := h.cell p x hx
    obtain ⟨z, hz, h2⟩ := k.cell p y hy
    exact ⟨z, hz, h1.trans h2⟩,
   fun p x hx => by
    obtain ⟨y, hy, _⟩ := h.cell p x hx
    exact (k.frz p y hy).trans (h.frz p x hx)⟩
theorem Sim.drew {S : Nat → Prop} {a b : World} (h : Sim S a b) : Sim S a b.drew := ⟨h.os, h.tape, h.output, h.size, h.block, h.cell, h.frz⟩
theorem Sim.slice {S : Nat → Prop} {w w' : World} (h : Sim S w w') {p : Addr} {A : Option Addr} {n c : Nat} (hp : w.cell? p = some (.slice A n c)) : w'.cell? p = some (.slice A n c) := by
  obtain ⟨b, hb, hs⟩ := h.cell p _ hp
  rcases hs with rfl | ⟨x, h, _⟩ | ⟨s, h, _⟩
  · exact hb
  · cases h
  · cases h
theorem Sim.set {S : Nat → Prop} {w : World} {p : Addr} {a b : Value} (hS : S p.block) (hp : w.cell? p = some a) (hs : sim a b) : Sim S w (w.setCell p b) := by
  refine ⟨rfl, rfl, rfl, by simp [World.setCell], fun k hk hn => Below.heap_setCell w p b k (fun e => hn (by rw [e]; exact hS)), fun q x hx => ?_, fun q x hx => by rw [World.frozen?_setCell]⟩
  by_cases e : p = q
  · subst e
    rw [hp] at hx
    injection hx with hx
    subst hx
    exact ⟨b, World.cell?_setCell_same _ _ _ hp, hs⟩
  · exact ⟨x, by rw [World.cell?_setCell_other _ _ _ _ e]; exact hx, .inl rfl⟩
theorem sims_of {S : Nat → Prop} {w w' : World} (h : Sim S w w') {g o : Nat} {ds : List Value} (hr : w.rangeAt g o ds) : ∃ es : List Value, es.length = ds.length ∧ w'.rangeAt g o es ∧ ∀ (i : Nat) (a b : Value), ds[i]? = some a → es[i]? = some b → sim a b := by
  obtain ⟨es, hl, hp⟩ := list_of (p := fun i b => w'.cell? ⟨g, o + i, none⟩ = some b ∧ ∀ a, ds[i]? = some a → sim a b) ds.length fun i hi => by
    have ha := List.getElem?_eq_getElem hi
    obtain ⟨b, hb, hs⟩ := h.cell ⟨g, o + i, none⟩ _ (hr i _ ha)
    exact ⟨b, hb, fun a h => by rw [ha] at h; injection h with h; subst h; exact hs⟩
  exact ⟨es, hl, fun i u hu => (hp i u hu).1, fun i a b ha hb => (hp i b hb).2 a ha⟩
theorem sim_int {x : Int} {b : Value} (h : sim (.int .i64 x) b) : ∃ y, b = .int .i64 y ∧ (y = x ∨ y = 9) := by
  rcases h with rfl | ⟨_, _, rfl⟩ | ⟨_, h, _⟩
  · exact ⟨x, rfl, .inl rfl⟩
  · exact ⟨9, rfl, .inr rfl⟩
  · cases h
theorem sim_str {s : List UInt8} {b : Value} (h : sim (.string (bs s)) b) : ∃ t, b = .string (bs t) ∧ (t = s ∨ t = spoilt) := by
  rcases h with rfl | ⟨_, h, _⟩ | ⟨_, _, rfl⟩
  · exact ⟨s, rfl, .inl rfl⟩
  · cases h
  · exact ⟨spoilt, rfl, .inr rfl⟩
theorem sim_bool {x : Bool} {b : Value} (h : sim (.bool x) b) : b = .bool x := by
  rcases h with rfl | ⟨_, h, _⟩ | ⟨_, h, _⟩
  · rfl
  · cases h
  · cases h
theorem sim_slice {A : Option Addr} {n c : Nat} {b : Value} (h : sim (.slice A n c) b) : b = .slice A n c := by
  rcases h with rfl | ⟨_, h, _⟩ | ⟨_, h, _⟩
  · rfl
  · cases h
  · cases h
theorem VO.len6 {w : World} {S : Nat → Prop} {n : Nat} {cs : List Value} {v : Val} (h : VO w S n cs v) : cs.length = 6 := by
  obtain ⟨_, _, _, _, _, _, rfl⟩ := h.open
  rfl
theorem seven {cs : List Value} (h : cs.length = 7) : ∃ k a b c d e f, cs = [k, a, b, c, d, e, f] := by
  match cs, h with
  | [k, a, b, c, d, e, f], _ => exact ⟨k, a, b, c, d, e, f, rfl⟩
theorem VO.sim {S : Nat → Prop} {w w' : World} (hs : Sim S w w') : ∀ {n : Nat} {cs cs' : List Value} {v : Val}, VO w S n cs v → cs'.length = cs.length → (∀ (i : Nat) (a b : Value), cs[i]? = some a → cs'[i]? = some b → sim a b) →
    ∃ v', VO w' S n cs' v' ∧ v'.l.length = v.l.length ∧ v'.o.length = v.o.length
  | 0, _, _, _, h, _, _ => absurd h (by simp [VO])
  | n + 1, cs, cs', v, h, hl, hc => by
    obtain ⟨A1, c1, A2, c2, rfl, h1, h2, h3, h4, h5, h6, h7, hL, hO⟩ := h
    obtain ⟨a0, a1, a2, a3, a4, a5, rfl⟩ := six (show cs'.length = 6 from hl)
    obtain ⟨k', rfl, hk⟩ := sim_int (hc 0 _ _ rfl rfl)
    obtain rfl := sim_bool (hc 1 _ _ rfl rfl)
    obtain ⟨i', rfl, hi⟩ := sim_int (hc 2 _ _ rfl rfl)
    obtain ⟨s', rfl, hs'⟩ := sim_str (hc 3 _ _ rfl rfl)
    obtain rfl := sim_slice (hc 4 _ _ rfl rfl)
    obtain rfl := sim_slice (hc 5 _ _ rfl rfl)
    obtain ⟨l', hl', hp⟩ := list_of (p := fun j (x : Val) => ∃ g p ds, A1 = some ⟨g, p, none⟩ ∧ S g ∧ w'.rangeAt g (p + j * 6) ds ∧ (∀ i, i < 6 → w'.frozen? ⟨g, p + j * 6 + i, none⟩ = false) ∧ VO w' S n ds x) v.l.length fun j hj => by
      obtain ⟨g, p, ds, e1, e2, e3, e4, e5⟩ := hL j _ (List.getElem?_eq_getElem hj)
      obtain ⟨es, he, hr, hss⟩ := sims_of hs e3
      obtain ⟨x', hx, _, _⟩ := VO.sim hs e5 he hss
      have h6 : ds.length = 6 := e5.len6
      exact ⟨x', g, p, es, e1, e2, hr, fun i hi => by rw [hs.frz ⟨g, p + j * 6 + i, none⟩ _ (e3 i _ (List.getElem?_eq_getElem (by omega)))]; exact e4 i hi, hx⟩
    obtain ⟨o', ho', hq⟩ := list_of (p := fun j (m : List UInt8 × Val) => ∃ g p ds, A2 = some ⟨g, p, none⟩ ∧ S g ∧ w'.rangeAt g (p + j * 7) (.string (bs m.1) :: ds) ∧ (∀ i, i < 7 → w'.frozen? ⟨g, p + j * 7 + i, none⟩ = false) ∧ m.1.length ≤ 140737488351232 ∧ VO w' S n ds m.2) v.o.length fun j hj => by
      obtain ⟨g, p, ds, e1, e2, e3, e4, e5, e6⟩ := hO j _ (List.getElem?_eq_getElem hj)
      obtain ⟨es, he, hr, hss⟩ := sims_of hs e3
      obtain ⟨b0, es, rfl, hle⟩ := one_more (show es.length = ds.length + 1 by rw [he]; rfl)
      obtain ⟨t, rfl, ht⟩ := sim_str (hss 0 _ _ rfl rfl)
      obtain ⟨x', hx, _, _⟩ := VO.sim hs e6 hle (fun i a b ha hb => hss (i + 1) a b ha hb)
      have h6 : ds.length = 6 := e6.len6
      refine ⟨(t, x'), g, p, es, e1, e2, hr, fun i hi => ?_, ?_, hx⟩
      · rw [hs.frz ⟨g, p + j * 7 + i, none⟩ _ (e3 i _ (List.getElem?_eq_getElem (by simp; omega)))]; exact e4 i hi
      · show t.length ≤ _
        rcases ht with rfl | rfl
        · exact e5
        · decide
    refine ⟨.mk k' v.b i' s' l' o', ⟨A1, c1, A2, c2, ?_, ?_, ?_, ?_, ?_, ?_, ?_, ?_, fun j x hx => hp j x hx, fun j m hm => hq j m hm⟩, hl', ho'⟩
    · show _ = [_, _, _, _, Value.slice A1 l'.length c1, Value.slice A2 o'.length c2]
      rw [hl', ho']
      rfl
    · show I64 k'
      rcases hk with rfl | rfl
      · exact h1
      · exact ⟨by omega, by omega⟩
    · show I64 i'
      rcases hi with rfl | rfl
      · exact h2
      · exact ⟨by omega, by omega⟩
    · show s'.length ≤ _
      rcases hs' with rfl | rfl
      · exact h3
      · decide
    · show l'.length ≤ _; omega
    · show o'.length ≤ _; omega
    · show l'.length ≤ _; omega
    · show o'.length ≤ _; omega

set_option maxRecDepth 100000 in
set_option maxHeartbeats 8000000 in
theorem spoil_any (S : Nat → Prop) : ∀ (n : Nat) (cs : List Value) (v : Val) (g0 o0 : Nat) (w : World), VO w S n cs v → w.rangeAt g0 o0 cs →
    Calls Tryd.prog 21 #[.pointer (some ⟨g0, o0, none⟩)] w fun e w' => e = .returned (.tuple #[]) ∧ Sim S w w' := by
  intro n
  induction n with
  | zero => intro cs v g0 o0 w h; exact absurd h (by simp [VO])
  | succ n ih =>
    intro cs v g0 o0 w hv hr0
    obtain ⟨A1, c1, A2, c2, rfl, _, _, _, hl, ho, _, _, hL, hO⟩ := hv
    have q4 := hr0 4 _ rfl
    have q5 := hr0 5 _ rfl
    have IH := Lib.hid ih
    have HL := Lib.hid hL
    have HO := Lib.hid hO
    have Q4 := Lib.hid q4
    have Q5 := Lib.hid q5
    clear hr0 ih hL hO
    go_enter Tryd.func21, Tryd.ntmps21
    go_wp2_with fail
    go_loopw [2] (fun i wr => ∃ j : Nat, j ≤ v.l.length ∧ i = .int .i64 j ∧ Sim S w wr) (fun i _ => v.l.length - (intOf i).toNat)
    case atStart => exact ⟨0, Nat.zero_le _, rfl, Sim.refl _ _⟩
    case round =>
      obtain ⟨j, hj, rfl, hb⟩ := hrel
      clear q4 q5
      have q4 := hb.slice Q4.out
      have q5 := hb.slice Q5.out
      by_cases hlt : j < v.l.length
      · obtain ⟨g, p, ds, hA, hS, hr, hfz, hvo⟩ := HL.out j _ (List.getElem?_eq_getElem hlt)
        obtain ⟨es, he, hre, hss⟩ := sims_of hb hr
        obtain ⟨x, hx, _, _⟩ := VO.sim hb hvo he hss
        have hfz2 : ∀ i, i < 6 → wr.frozen? ⟨g, p + j * 6 + i, none⟩ = false := fun i hi => by
          rw [hb.frz _ _ (hr i _ (List.getElem?_eq_getElem (by have := hvo.len6; omega)))]; exact hfz i hi
        have HI := Lib.hid (IH.out es x g (p + j * 6) wr hx hre)
        obtain ⟨_, B1, e1, B2, e2, -, rfl⟩ := hx.open
        subst hA
        have HR := Lib.hid (And.intro hre hfz2)
        clear hr hfz hvo he hre hss hx hfz2
        go_wp2_with fail
        ((with_reducible refine HI.out.mono ?_); rintro e w4 ⟨rfl, h4⟩)
        have q4 := h4.slice q4
        obtain ⟨b0, a0, s0⟩ := h4.cell _ _ (HR.out.1 0 _ rfl)
        obtain ⟨b3, a3, s3⟩ := h4.cell _ _ (HR.out.1 3 _ rfl)
        obtain ⟨y, rfl, _⟩ := sim_int s0
        obtain ⟨t, rfl, _⟩ := sim_str s3
        have f0 := (h4.frz _ _ (HR.out.1 0 _ rfl)).trans (HR.out.2 0 (by omega))
        have f3 := (h4.frz _ _ (HR.out.1 3 _ rfl)).trans (HR.out.2 3 (by omega))
        have a0 : w4.cell? ⟨g, p + j * 6, none⟩ = some (.int .i64 y) := a0
        have f0 : w4.frozen? ⟨g, p + j * 6, none⟩ = false := f0
        have H4 := Lib.hid (And.intro h4 (And.intro a0 a3))
        clear s0 s3 HI h4
        go_wp2_with fail
        go_region_law (fail)
        all_goals
          have hfin : Sim S w ((w4.setCell ⟨g, p + j * 6, none⟩ (.int .i64 9)).setCell ⟨g, p + j * 6 + 3, none⟩ (.string (bs spoilt))).drew :=
            (hb.trans (H4.out.1.trans ((Sim.set hS H4.out.2.1 (.inr (.inl ⟨_, rfl, rfl⟩))).trans (Sim.set hS (by rw [World.cell?_setCell_other _ _ _ _ (by simp)]; exact H4.out.2.2) (.inr (.inr ⟨_, rfl, rfl⟩)))))).drew
          clear H4 HR a0 a3 f0 f3 q4 q5 hb
          go_wp2
          go_roundw
          case rel => exact ⟨j + 1, by omega, by go_num, hfin⟩
          case measure => simp [intOf]; omega
      · clear HL
        go_wp2_with fail
        go_loopw [3] (fun i wr => ∃ j : Nat, j ≤ v.o.length ∧ i = .int .i64 j ∧ Sim S w wr) (fun i _ => v.o.length - (intOf i).toNat)
        case atStart => exact ⟨0, Nat.zero_le _, rfl, hb⟩
        case round =>
          clear q4 q5 hlt hj hb
          obtain ⟨j, hj, rfl, hb⟩ := hrel
          have q5 := hb.slice Q5.out
          by_cases hlt : j < v.o.length
          · obtain ⟨g, p, ds, hA, hS, hr, hfz, hkl, hvo⟩ := HO.out j _ (List.getElem?_eq_getElem hlt)
            obtain ⟨es, he, hre, hss⟩ := sims_of hb hr
            obtain ⟨b0, es, rfl, hle⟩ := one_more (show es.length = ds.length + 1 by rw [he]; rfl)
            obtain ⟨t, rfl, ht⟩ := sim_str (hss 0 _ _ rfl rfl)
            obtain ⟨x, hx, _, _⟩ := VO.sim hb hvo hle (fun i a b ha hb => hss (i + 1) a b ha hb)
            have hfz2 : ∀ i, i < 7 → wr.frozen? ⟨g, p + j * 7 + i, none⟩ = false := fun i hi => by
              rw [hb.frz _ _ (hr i _ (List.getElem?_eq_getElem (by have := hvo.len6; simp; omega)))]; exact hfz i hi
            have HI := Lib.hid (IH.out es x g (p + j * 7 + 1) wr hx (fun i u hu => by rw [show p + j * 7 + 1 + i = p + j * 7 + (i + 1) by omega]; exact hre (i + 1) u hu))
            obtain ⟨_, B1, e1, B2, e2, -, rfl⟩ := hx.open
            subst hA
            have HR := Lib.hid (And.intro hre hfz2)
            clear hr hfz hvo he hre hss hx hfz2 hkl ht
            go_wp2_with fail
            ((with_reducible refine HI.out.mono ?_); rintro e w4 ⟨rfl, h4⟩)
            have q5 := h4.slice q5
            obtain ⟨b0, a0, s0⟩ := h4.cell _ _ (HR.out.1 0 _ rfl)
            obtain ⟨b3, a3, s3⟩ := h4.cell _ _ (HR.out.1 1 _ rfl)
            obtain ⟨t, rfl, _⟩ := sim_str s0
            obtain ⟨y, rfl, _⟩ := sim_int s3
            have f0 := (h4.frz _ _ (HR.out.1 0 _ rfl)).trans (HR.out.2 0 (by omega))
            have f3 := (h4.frz _ _ (HR.out.1 1 _ rfl)).trans (HR.out.2 1 (by omega))
            have a0 : w4.cell? ⟨g, p + j * 7, none⟩ = some (.string (bs t)) := a0
            have f0 : w4.frozen? ⟨g, p + j * 7, none⟩ = false := f0
            have H4 := Lib.hid (And.intro h4 (And.intro a0 a3))
            clear s0 s3 HI h4
            go_wp2_with fail
            go_region_law (fail)
            all_goals
              have hfin : Sim S w ((w4.setCell ⟨g, p + j * 7, none⟩ (.string (bs spoilt))).setCell ⟨g, p + j * 7 + 1, none⟩ (.int .i64 9)).drew :=
                (hb.trans (H4.out.1.trans ((Sim.set hS H4.out.2.1 (.inr (.inr ⟨_, rfl, rfl⟩))).trans (Sim.set hS (by rw [World.cell?_setCell_other _ _ _ _ (by simp)]; exact H4.out.2.2) (.inr (.inl ⟨_, rfl, rfl⟩)))))).drew
              clear H4 HR a0 a3 f0 f3 q5 hb
              go_wp2
              go_roundw
              case rel => exact ⟨j + 1, by omega, by go_num, hfin⟩
              case measure => simp [intOf]; omega
          · clear HO
            go_wp2
            go_end0
            exact ⟨rfl, hb⟩
end Go.Proofs.YthaikagelloeoaaDoor
