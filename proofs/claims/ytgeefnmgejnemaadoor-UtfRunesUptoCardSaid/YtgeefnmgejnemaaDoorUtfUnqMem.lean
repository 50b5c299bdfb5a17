import Derived.Test.YtgeefnmgejnemaaDoorUtfEscape
import Derived.Test.YtgeefnmgejnemaaDoorUtfPlain
import Derived.Test.YtgeefnmgejnemaaDoorUtfQuote
namespace Go.Proofs.YtgeefnmgejnemaaDoor
open Go.RowKit Go.Shelf Utf
open Go.Lib (encodeRune byteCells byteCells_append byteCells_encodeRune byteCells_length)
set_option linter.unusedSimpArgs false
set_option linter.unusedVariables false
namespace Utf
/-- What a quote's reader does at bytes, but for the quote's end: a rune, its width, an error. -/
def stepL (l : List UInt8) : Nat × Nat × Nat := if l = [] ∨ (l.getD 0 0).toNat < 32 then (0, 1, 4) else if (l.getD 0 0).toNat = 92 then escapeL l else plainL l
/-- A quote read on from a place. -/
def unqGo (l : List UInt8) (k : Nat) (out : List UInt8) : List UInt8 × Nat × Nat :=
  if k < l.length ∧ (l.getD k 0).toNat = 34 then (out, k + 1, 0) else
  if h : (stepL (l.drop k)).2.2 ≠ 0 ∨ (stepL (l.drop k)).2.1 = 0 ∨ l.length ≤ k then ([], k, (stepL (l.drop k)).2.2)
  else unqGo l (k + (stepL (l.drop k)).2.1) (out ++ encodeRune ((stepL (l.drop k)).1 : Int))
termination_by l.length - k
decreasing_by omega
theorem unqGo_end {l : List UInt8} {k : Nat} {out : List UInt8} (h1 : k < l.length) (h2 : (l.getD k 0).toNat = 34) : unqGo l k out = (out, k + 1, 0) := by rw [unqGo, if_pos ⟨h1, h2⟩]
theorem unqGo_bad {l : List UInt8} {k : Nat} {out : List UInt8} (h1 : ¬ (k < l.length ∧ (l.getD k 0).toNat = 34)) (h2 : (stepL (l.drop k)).2.2 ≠ 0) : unqGo l k out = ([], k, (stepL (l.drop k)).2.2) := by rw [unqGo, if_neg h1, dif_pos (.inl h2)]
theorem unqGo_on {l : List UInt8} {k : Nat} {out : List UInt8} (h1 : ¬ (k < l.length ∧ (l.getD k 0).toNat = 34)) (h2 : (stepL (l.drop k)).2.2 = 0) (h3 : (stepL (l.drop k)).2.1 ≠ 0) (h4 : k < l.length) : unqGo l k out = unqGo l (k + (stepL (l.drop k)).2.1) (out ++ encodeRune ((stepL (l.drop k)).1 : Int)) := by
  rw [unqGo, if_neg h1, dif_neg (by omega)]
/-- The reader's answer: the text, a place, an error. -/
def unquoteL (l : List UInt8) (a : Int) : List UInt8 × Int × Nat :=
  if a < 0 ∨ (l.length : Int) < a then ([], 0, 17) else
  if a = l.length ∨ (l.getD a.toNat 0).toNat ≠ 34 then ([], a, 4) else
  ((unqGo l (a.toNat + 1) []).1, ((unqGo l (a.toNat + 1) []).2.1 : Int), (unqGo l (a.toNat + 1) []).2.2)
theorem escapeL_good {l : List UInt8} (h : (escapeL l).2.2 = 0) : (escapeL l).1 ≤ 1114111 ∧ 1 ≤ (escapeL l).2.1 ∧ (escapeL l).2.1 ≤ l.length := by
  by_cases h2 : l.length < 2
  · have e : escapeL l = (0, 0, 4) := if_pos h2
    rw [e] at h; cases h
  have e : escapeL l = (match unEsc (l.getD 1 0).toNat with
    | some r => (r, 2, 0)
    | none =>
      match fourL l with
      | none => (0, 0, 4)
      | some r => if r < 55296 ∨ 57343 < r then (r, 6, 0) else
        match fourL (l.drop 6) with
        | none => (0, 0, 3)
        | some q => if 56320 ≤ r ∨ q < 56320 ∨ 57343 < q then (0, 0, 3) else (65536 + 1024 * (r - 55296) + q - 56320, 12, 0)) := if_neg h2
  rw [e] at h ⊢
  cases he : unEsc (l.getD 1 0).toNat with
  | some r =>
    have hr : r ≤ 116 := by
      unfold unEsc at he
      repeat' split at he
      all_goals first
        | (cases he; done)
        | (injection he with he; omega)
    simp only
    omega
  | none =>
    simp only [he] at h ⊢
    cases hf : fourL l with
    | none => rw [hf] at h; cases h
    | some r =>
      obtain ⟨hr, h6⟩ := fourL_lt hf
      simp only [hf] at h ⊢
      by_cases h1 : r < 55296 ∨ 57343 < r
      · rw [if_pos h1]; simp only; omega
      · rw [if_neg h1] at h ⊢
        cases hg : fourL (l.drop 6) with
        | none => rw [hg] at h; cases h
        | some q =>
          obtain ⟨hq, h12⟩ := fourL_lt hg
          rw [List.length_drop] at h12
          simp only [hg] at h ⊢
          by_cases h5 : 56320 ≤ r ∨ q < 56320 ∨ 57343 < q
          · rw [if_pos h5] at h; cases h
          · rw [if_neg h5]; simp only; omega
theorem plainL_good {l : List UInt8} (h : (plainL l).2.2 = 0) : (plainL l).1 ≤ 1114111 ∧ 1 ≤ (plainL l).2.1 ∧ (plainL l).2.1 ≤ l.length := by
  by_cases e : (at1 l).2 = 0
  · have : plainL l = (0, 0, 3) := if_pos e
    rw [this] at h; cases h
  · have : plainL l = ((at1 l).1, (at1 l).2, 0) := if_neg e
    rw [this]
    have h1 := at1_rune_lt l
    have h2 := at1_width l
    simp only
    omega
theorem stepL_good {l : List UInt8} (h : (stepL l).2.2 = 0) : (stepL l).1 ≤ 1114111 ∧ 1 ≤ (stepL l).2.1 ∧ (stepL l).2.1 ≤ l.length := by
  by_cases h1 : l = [] ∨ (l.getD 0 0).toNat < 32
  · have e : stepL l = (0, 1, 4) := if_pos h1
    rw [e] at h; cases h
  by_cases h2 : (l.getD 0 0).toNat = 92
  · have e : stepL l = escapeL l := by unfold stepL; rw [if_neg h1, if_pos h2]
    rw [e] at h ⊢; exact escapeL_good h
  · have e : stepL l = plainL l := by unfold stepL; rw [if_neg h1, if_neg h2]
    rw [e] at h ⊢; exact plainL_good h
theorem enc_one {r : Nat} (h : r < 128) : (encodeRune (r : Int)).length ≤ 1 := by
  unfold encodeRune
  rw [Lib.encodeRuneZ_one (by omega) (by omega)]
  simp
theorem enc_three {r : Nat} (h : r < 65536) (hh : r < 55296 ∨ 57343 < r) : (encodeRune (r : Int)).length ≤ 3 := by
  unfold encodeRune
  by_cases h1 : r < 128
  · rw [Lib.encodeRuneZ_one (by omega) (by omega)]; simp
  by_cases h2 : r < 2048
  · rw [Lib.encodeRuneZ_two (by omega) (by omega)]; simp
  · rw [Lib.encodeRuneZ_three (by omega)]; simp
/-- What a step writes is no longer than what it reads. -/
theorem stepL_enc {l : List UInt8} (h : (stepL l).2.2 = 0) : (encodeRune ((stepL l).1 : Int)).length ≤ (stepL l).2.1 := by
  by_cases h1 : l = [] ∨ (l.getD 0 0).toNat < 32
  · have e : stepL l = (0, 1, 4) := if_pos h1
    rw [e] at h; cases h
  by_cases h2 : (l.getD 0 0).toNat = 92
  · have e : stepL l = escapeL l := by unfold stepL; rw [if_neg h1, if_pos h2]
    rw [e] at h ⊢
    by_cases h2 : l.length < 2
    · have e : escapeL l = (0, 0, 4) := if_pos h2
      rw [e] at h; cases h
    have e : escapeL l = (match unEsc (l.getD 1 0).toNat with
      | some r => (r, 2, 0)
      | none =>
        match fourL l with
        | none => (0, 0, 4)
        | some r => if r < 55296 ∨ 57343 < r then (r, 6, 0) else
          match fourL (l.drop 6) with
          | none => (0, 0, 3)
          | some q => if 56320 ≤ r ∨ q < 56320 ∨ 57343 < q then (0, 0, 3) else (65536 + 1024 * (r - 55296) + q - 56320, 12, 0)) := if_neg h2
    rw [e] at h ⊢
    cases he : unEsc (l.getD 1 0).toNat with
    | some r =>
      have hr : r < 128 := by
        unfold unEsc at he
        repeat' split at he
        all_goals first
          | (cases he; done)
          | (injection he with he; omega)
      have := enc_one hr
      simp only
      omega
    | none =>
      simp only [he] at h ⊢
      cases hf : fourL l with
      | none => rw [hf] at h; cases h
      | some r =>
        obtain ⟨hr, h6⟩ := fourL_lt hf
        simp only [hf] at h ⊢
        by_cases h1 : r < 55296 ∨ 57343 < r
        · rw [if_pos h1]
          have := enc_three hr h1
          simp only; omega
        · rw [if_neg h1] at h ⊢
          cases hg : fourL (l.drop 6) with
          | none => rw [hg] at h; cases h
          | some q =>
            simp only [hg] at h ⊢
            by_cases h5 : 56320 ≤ r ∨ q < 56320 ∨ 57343 < q
            · rw [if_pos h5] at h; cases h
            · rw [if_neg h5]
              have := (Lib.encodeRuneZ_length ((65536 + 1024 * (r - 55296) + q - 56320 : Nat) : Int)).2
              unfold encodeRune
              simp only [List.length_map]
              omega
  · have e : stepL l = plainL l := by unfold stepL; rw [if_neg h1, if_neg h2]
    rw [e] at h ⊢
    by_cases e : (at1 l).2 = 0
    · have : plainL l = (0, 0, 3) := if_pos e
      rw [this] at h; cases h
    · have e2 : plainL l = ((at1 l).1, (at1 l).2, 0) := if_neg e
      rw [e2]
      have := at1_encode (l := l) e
      simp only
      rw [this, List.length_take]
      omega
end Utf
/-- What the reader lives on: the escapes' map at M, the builder at q. -/
structure UI (w : World) (M q : Nat) (out : List UInt8) (W : World) : Prop where
  lt : M < q ∧ w.heap.size ≤ q
  bld : Bld q q (byteCells out) W
  map : RuneMap W M 8 escD
  bel : Below w.heap.size w W
theorem Bld.sz {q : Nat} {bs : List Value} {W : World} (h : Bld q q bs W) : q < W.heap.size := by
  rcases h with ⟨_, v, hb, _⟩ | ⟨_, v, hb, _⟩ <;> exact at_lt hb
theorem Bld.on {q : Nat} {bs : List Value} {A B : World} (h : Bld q q bs A) (hB : Below A.heap.size A B) : Bld q q bs B := by
  have hg := grown_none hB
  have at_ : ∀ p, Lib.BuilderAtF 55 5 q q p bs A → Lib.BuilderAtF 55 5 q q p bs B := fun p ⟨h1, v, hb, hown, hne⟩ =>
    ⟨h1, v, (hB.block _ (at_lt hb)).trans hb, hown.kept hg (Classical.em _), hne⟩
  exact h.elim (fun x => .inl (at_ _ x)) (fun x => .inr (at_ _ x))
theorem UI.on {w : World} {M q : Nat} {out : List UInt8} {A B : World} (h : UI w M q out A) (hB : Below A.heap.size A B) : UI w M q out B :=
  ⟨h.lt, h.bld.on hB, World.ownsMap.kept h.map (grown_none hB) (by simp), h.bel.trans (hB.mono h.bel.size)⟩
theorem UI.write {w : World} {M q : Nat} {out k : List UInt8} {A B : World} {xs : List Value} (h : UI w M q out A) (hx : xs = byteCells k) (hb : BldU q q (byteCells out ++ xs) B) (hB : Below q A B) : UI w M q (out ++ k) B := by
  refine ⟨h.lt, by rw [byteCells_append, ← hx]; exact hb.b, ?_, h.bel.trans (hB.mono h.lt.2)⟩
  obtain ⟨es, clock, hm, F, hs, hD⟩ := h.map
  exact ⟨es, clock, (hB.block M h.lt.1).trans hm, F, hs, hD⟩
theorem urune {w : World} {M q : Nat} {out : List UInt8} {W : World} (h : UI w M q out W) (hl : out.length + 4 ≤ 140737488355328) (r : Nat) (hr : r ≤ 1114111) :
    Calls Tryd.prog 28 #[.pointer (some ⟨q, 0, none⟩), .int .i32 (r : Int)] W fun e W' => (∃ v, e = .returned v) ∧ UI w M q (out ++ encodeRune (r : Int)) W' := by
  refine (wrune_k q q _ (r : Int) (by omega) (by omega) W h.bld (by rw [byteCells_length]; exact hl) (by have := h.bld.sz; omega)).mono ?_
  rintro e W' ⟨rfl, hb, hB, hO⟩
  exact ⟨⟨_, rfl⟩, h.write (byteCells_encodeRune _).symm hb hB⟩
end Go.Proofs.YtgeefnmgejnemaaDoor
