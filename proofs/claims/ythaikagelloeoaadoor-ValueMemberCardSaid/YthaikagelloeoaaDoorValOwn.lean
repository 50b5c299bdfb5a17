/- Values in blocks of their own: 'VO w S n cs v': the six cells cs read as v, each list in a block that S says, and free to be written. -/
import Derived.Test.YthaikagelloeoaaDoorValFit
import Derived.Test.YthaikagelloeoaaDoorRowsO
namespace Go.Proofs.YthaikagelloeoaaDoor
open Go.RowKit Val

def VO (w : World) (S : Nat → Prop) : Nat → List Value → Val → Prop
  | 0, _, _ => False
  | n + 1, cs, v => ∃ A1 c1 A2 c2,
      cs = [.int .i64 v.k, .bool v.b, .int .i64 v.i, .string (bs v.s), .slice A1 v.l.length c1, .slice A2 v.o.length c2] ∧
      I64 v.k ∧ I64 v.i ∧ v.s.length ≤ 140737488351232 ∧ v.l.length ≤ 140737488351232 ∧ v.o.length ≤ 140737488351232 ∧ v.l.length ≤ c1 ∧ v.o.length ≤ c2 ∧
      (∀ (j : Nat) (x : Val), v.l[j]? = some x → ∃ g p ds, A1 = some ⟨g, p, none⟩ ∧ S g ∧ w.rangeAt g (p + j * 6) ds ∧ (∀ i, i < 6 → w.frozen? ⟨g, p + j * 6 + i, none⟩ = false) ∧ VO w S n ds x) ∧
      (∀ (j : Nat) (m : List UInt8 × Val), v.o[j]? = some m → ∃ g p ds, A2 = some ⟨g, p, none⟩ ∧ S g ∧ w.rangeAt g (p + j * 7) (.string (bs m.1) :: ds) ∧ (∀ i, i < 7 → w.frozen? ⟨g, p + j * 7 + i, none⟩ = false) ∧ m.1.length ≤ 140737488351232 ∧ VO w S n ds m.2)

theorem VO.keep {w w' : World} {S S' : Nat → Prop} (hS : ∀ g, S g → S' g) (hk : SameAt S w w') : ∀ {n : Nat} {cs v}, VO w S n cs v → VO w' S' n cs v
  | 0, _, _, h => absurd h (by simp [VO])
  | n + 1, cs, v, h => by
    obtain ⟨A1, c1, A2, c2, e, h1, h2, h3, h4, h5, h6, h7, hl, ho⟩ := h
    refine ⟨A1, c1, A2, c2, e, h1, h2, h3, h4, h5, h6, h7, fun j x hx => ?_, fun j x hx => ?_⟩
    · obtain ⟨g, p, ds, e1, e2, e3, e4, e5⟩ := hl j x hx
      exact ⟨g, p, ds, e1, hS g e2, fun i u hu => (hk ⟨g, p + j * 6 + i, none⟩ e2).1.trans (e3 i u hu), fun i hi => (hk ⟨g, p + j * 6 + i, none⟩ e2).2.trans (e4 i hi), VO.keep hS hk e5⟩
    · obtain ⟨g, p, ds, e1, e2, e3, e4, e5, e6⟩ := ho j x hx
      exact ⟨g, p, ds, e1, hS g e2, fun i u hu => (hk ⟨g, p + j * 7 + i, none⟩ e2).1.trans (e3 i u hu), fun i hi => (hk ⟨g, p + j * 7 + i, none⟩ e2).2.trans (e4 i hi), e5, VO.keep hS hk e6⟩
theorem VO.more {w : World} {S S' : Nat → Prop} (hS : ∀ g, S g → S' g) {n : Nat} {cs : List Value} {v : Val} (h : VO w S n cs v) : VO w S' n cs v := h.keep hS (SameAt.refl S w)
theorem VO.mono {w : World} {S : Nat → Prop} : ∀ {n m : Nat}, n ≤ m → ∀ {cs v}, VO w S n cs v → VO w S m cs v
  | 0, _, _, _, _, h => absurd h (by simp [VO])
  | n + 1, 0, h, _, _, _ => by omega
  | n + 1, m + 1, hnm, cs, v, h => by
    obtain ⟨A1, c1, A2, c2, e, h1, h2, h3, h4, h5, h6, h7, hl, ho⟩ := h
    refine ⟨A1, c1, A2, c2, e, h1, h2, h3, h4, h5, h6, h7, fun j x hx => ?_, fun j x hx => ?_⟩
    · obtain ⟨g, p, ds, e1, e2, e3, e4, e5⟩ := hl j x hx
      exact ⟨g, p, ds, e1, e2, e3, e4, VO.mono (by omega) e5⟩
    · obtain ⟨g, p, ds, e1, e2, e3, e4, e5, e6⟩ := ho j x hx
      exact ⟨g, p, ds, e1, e2, e3, e4, e5, VO.mono (by omega) e6⟩
theorem VO.vin {w : World} {S : Nat → Prop} {B : Nat} (hS : ∀ g, S g → g < B) : ∀ {n : Nat} {cs v}, VO w S n cs v → VIn w B n cs v
  | 0, _, _, h => absurd h (by simp [VO])
  | n + 1, cs, v, h => by
    obtain ⟨A1, c1, A2, c2, e, h1, h2, h3, h4, h5, h6, h7, hl, ho⟩ := h
    refine ⟨A1, c1, A2, c2, e, h1, h2, h3, h4, h5, h6, h7, fun j x hx => ?_, fun j x hx => ?_⟩
    · obtain ⟨g, p, ds, e1, e2, e3, e4, e5⟩ := hl j x hx
      exact ⟨g, p, ds, e1, hS g e2, e3, VO.vin hS e5⟩
    · obtain ⟨g, p, ds, e1, e2, e3, e4, e5, e6⟩ := ho j x hx
      exact ⟨g, p, ds, e1, hS g e2, e3, e5, VO.vin hS e6⟩
theorem VO.open {w : World} {S : Nat → Prop} {n : Nat} {cs : List Value} {v : Val} (h : VO w S n cs v) : ∃ m A1 c1 A2 c2, n = m + 1 ∧
      cs = [.int .i64 v.k, .bool v.b, .int .i64 v.i, .string (bs v.s), .slice A1 v.l.length c1, .slice A2 v.o.length c2] := by
  cases n with
  | zero => exact absurd h (by simp [VO])
  | succ m =>
    obtain ⟨A1, c1, A2, c2, h⟩ := h
    exact ⟨m, A1, c1, A2, c2, rfl, h.1⟩

theorem VO.then {w w' : World} {lo : Nat} {row : Option Nat} {n : Nat} {cs : List Value} {v : Val} (h : VO w (Span lo w.heap.size row) n cs v) (hb : Below w.heap.size w w') : VO w' (Span lo w'.heap.size row) n cs v :=
  h.keep (fun _ hg => ⟨hg.1, Nat.lt_of_lt_of_le hg.2.1 hb.size, hg.2.2⟩) (SameAt.below hb fun _ hg => hg.2.1)

def MO (w : World) (S : Nat → Prop) (n : Nat) (ds : List Value) (m : List UInt8 × Val) : Prop := ∃ ds', ds = .string (bs m.1) :: ds' ∧ m.1.length ≤ 140737488351232 ∧ VO w S n ds' m.2
theorem MO.keep {w w' : World} {S S' : Nat → Prop} (hS : ∀ g, S g → S' g) (hk : SameAt S w w') {n : Nat} {ds : List Value} {m : List UInt8 × Val} (h : MO w S n ds m) : MO w' S' n ds m := by
  obtain ⟨ds', e, h1, h2⟩ := h
  exact ⟨ds', e, h1, h2.keep hS hk⟩
/-- The parts of a list, of members. -/
def LO (w : World) (S : Nat → Prop) (n : Nat) (A : Option Addr) (l : List Val) : Prop :=
  ∀ (j : Nat) (x : Val), l[j]? = some x → ∃ g p ds, A = some ⟨g, p, none⟩ ∧ S g ∧ w.rangeAt g (p + j * 6) ds ∧ (∀ i, i < 6 → w.frozen? ⟨g, p + j * 6 + i, none⟩ = false) ∧ VO w S n ds x
def OO (w : World) (S : Nat → Prop) (n : Nat) (A : Option Addr) (l : List (List UInt8 × Val)) : Prop :=
  ∀ (j : Nat) (m : List UInt8 × Val), l[j]? = some m → ∃ g p ds, A = some ⟨g, p, none⟩ ∧ S g ∧ w.rangeAt g (p + j * 7) (.string (bs m.1) :: ds) ∧ (∀ i, i < 7 → w.frozen? ⟨g, p + j * 7 + i, none⟩ = false) ∧ m.1.length ≤ 140737488351232 ∧ VO w S n ds m.2
theorem LO.keep {w w' : World} {S S' : Nat → Prop} (hS : ∀ g, S g → S' g) (hk : SameAt S w w') {n : Nat} {A : Option Addr} {l : List Val} (h : LO w S n A l) : LO w' S' n A l := fun j x hx => by
  obtain ⟨g, p, ds, e1, e2, e3, e4, e5⟩ := h j x hx
  exact ⟨g, p, ds, e1, hS g e2, fun i u hu => (hk ⟨g, p + j * 6 + i, none⟩ e2).1.trans (e3 i u hu), fun i hi => (hk ⟨g, p + j * 6 + i, none⟩ e2).2.trans (e4 i hi), e5.keep hS hk⟩
theorem OO.keep {w w' : World} {S S' : Nat → Prop} (hS : ∀ g, S g → S' g) (hk : SameAt S w w') {n : Nat} {A : Option Addr} {l : List (List UInt8 × Val)} (h : OO w S n A l) : OO w' S' n A l := fun j x hx => by
  obtain ⟨g, p, ds, e1, e2, e3, e4, e5, e6⟩ := h j x hx
  exact ⟨g, p, ds, e1, hS g e2, fun i u hu => (hk ⟨g, p + j * 7 + i, none⟩ e2).1.trans (e3 i u hu), fun i hi => (hk ⟨g, p + j * 7 + i, none⟩ e2).2.trans (e4 i hi), e5, e6.keep hS hk⟩
theorem LO.of_own {w : World} {base n c : Nat} {e : TypeId} {A : Option Addr} {xs : List Value} {l : List Val} {S : Nat → Prop} (hown : w.ownsRow base e 6 (.slice A l.length c) l.length xs) (h : RowsO 6 (VO w S n) xs l) (hS : ∀ g, S g → Span base w.heap.size none g) : LO w (Span base w.heap.size none) n A l := fun j x hx => by
  obtain ⟨g, ds, e1, e2, e3, e4, e5, e6⟩ := own_parts hown h j x hx
  exact ⟨g, 0, ds, e1, ⟨e2, e3, by simp⟩, e4, e5, e6.more hS⟩
theorem OO.of_own {w : World} {base n c : Nat} {e : TypeId} {A : Option Addr} {xs : List Value} {l : List (List UInt8 × Val)} {S : Nat → Prop} (hown : w.ownsRow base e 7 (.slice A l.length c) l.length xs) (h : RowsO 7 (MO w S n) xs l) (hS : ∀ g, S g → Span base w.heap.size none g) : OO w (Span base w.heap.size none) n A l := fun j x hx => by
  obtain ⟨g, ds, e1, e2, e3, e4, e5, ds', rfl, e6, e7⟩ := own_parts hown h j x hx
  exact ⟨g, 0, ds', e1, ⟨e2, e3, by simp⟩, e4, e5, e6, e7.more hS⟩
end Go.Proofs.YthaikagelloeoaaDoor
