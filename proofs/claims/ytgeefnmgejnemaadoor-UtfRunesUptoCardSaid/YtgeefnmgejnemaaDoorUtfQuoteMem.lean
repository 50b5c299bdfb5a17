import Derived.Test.YtgeefnmgejnemaaDoorUtfCount
import Derived.Test.YtgeefnmgejnemaaDoorUtfMarks
import Derived.Test.YtgeefnmgejnemaaDoorUtfBuilder
import Derived.Maps.OwnIn
namespace Go.Proofs.YtgeefnmgejnemaaDoor
open Go.RowKit Go.Shelf Utf
open Go.Lib (encodeRune byteCells byteCells_append byteCells_encodeRune byteCells_length)
set_option linter.unusedSimpArgs false
set_option linter.unusedVariables false

/-- What a quote's rounds live on: the marks' map at m, its box at q, the builder behind it, the text's box at Bs. -/
structure QI (m q Bs : Nat) (s l : List UInt8) (W : World) : Prop where
  lt : m < q ∧ q + 1 < Bs
  bld : Bld (q + 1) (q + 1) (byteCells l) W
  map : RuneMap W m 8 markD
  box : W.heap[q]? = some (.cells #[.map (some m)] 50 (0, 0))
  txt : W.heap[Bs]? = some (.cells #[.string (bs s)] 9 (0, 0))
theorem QI.blt {m q Bs : Nat} {s l : List UInt8} {W : World} (h : QI m q Bs s l W) : ∃ cs, W.heap[q + 1]? = some (.cells cs 55 (0, 0)) := by
  rcases h.bld with ⟨_, v, hb, _⟩ | ⟨_, v, hb, _⟩
  · exact ⟨_, hb⟩
  · exact ⟨_, hb⟩
theorem QI.size {m q Bs : Nat} {s l : List UInt8} {W : World} (h : QI m q Bs s l W) : q + 1 < W.heap.size := by
  obtain ⟨cs, hb⟩ := h.blt
  exact at_lt hb
theorem QI.cell {m q Bs : Nat} {s l : List UInt8} {W : World} (h : QI m q Bs s l W) : W.cell? ⟨q, 0, none⟩ = some (.map (some m)) := by
  rw [cell_of_row _ _ 0 _ _ (0, 0) h.box]; rfl
theorem QI.write {m q Bs : Nat} {s l l' : List UInt8} {W W' : World} (h : QI m q Bs s l W) (hb : Bld (q + 1) (q + 1) (byteCells l') W') (hB : Below (q + 1) W W') (hO : Lib.OthersKept 5 (some (q + 1)) W W') : QI m q Bs s l' W' := by
  have h1 := h.lt
  have h2 := h.size
  refine ⟨h.lt, hb, ?_, (hB.block q (by omega)).trans h.box, hO Bs _ h.txt (by intro e; injection e; omega) (by intro c fz e; injection e with _ e _; exact absurd e (by decide))⟩
  obtain ⟨es, clock, hb, F, hs, hD⟩ := h.map
  exact ⟨es, clock, (hB.block m (by omega)).trans hb, F, hs, hD⟩
theorem QI.own {m q Bs : Nat} {s l : List UInt8} {A B : World} {row : Option Nat} (h : QI m q Bs s l A) (hg : A.grownBy B row) (hr : ∀ r, row = some r → ∃ o : Obj, A.heap[r]? = some o ∧ o.isCells = false) (hm : ∀ r, row = some r → q < r) : QI m q Bs s l B := by
  have no : ∀ (k : Nat) (cs : Array Value) (T : TypeId) (fz : Nat × Nat), A.heap[k]? = some (Obj.cells cs T fz) → some k ≠ row := fun k cs T fz hk e => by
    obtain ⟨o, ho, hc⟩ := hr k e.symm
    rw [hk] at ho
    injection ho with ho
    subst ho
    cases hc
  have kp : ∀ (k : Nat) (cs : Array Value) (T : TypeId) (fz : Nat × Nat), A.heap[k]? = some (Obj.cells cs T fz) → B.heap[k]? = some (Obj.cells cs T fz) := fun k cs T fz hk => (hg.block k (at_lt hk) (no k cs T fz hk)).trans hk
  have at_ : ∀ p, Lib.BuilderAtF 55 5 (q + 1) (q + 1) p (byteCells l) A → Lib.BuilderAtF 55 5 (q + 1) (q + 1) p (byteCells l) B := fun p ⟨h1, v, hb, hown, hne⟩ =>
    ⟨h1, v, kp _ _ _ _ hb, hown.kept hg (by
      rcases e : v.ownBlock with _ | g
      · exact .inl rfl
      · obtain ⟨c, fz, hc⟩ := Lib.ownsRowF_kind hown g e
        exact .inr (no g _ _ _ hc)), hne⟩
  refine ⟨h.lt, h.bld.elim (fun x => .inl (at_ _ x)) (fun x => .inr (at_ _ x)), ?_, kp _ _ _ _ h.box, kp _ _ _ _ h.txt⟩
  exact World.ownsMap.kept h.map hg (fun e => by have := hm m e.symm; have := h.lt; omega)
/-- A round's writes, from a world on. -/
def QS (m q Bs : Nat) (s : List UInt8) (W₀ : World) (l : List UInt8) (W : World) : Prop := QI m q Bs s l W ∧ Below (q + 1) W₀ W ∧ Lib.OthersKept 5 (some (q + 1)) W₀ W
theorem QI.start {m q Bs : Nat} {s l : List UInt8} {W : World} (h : QI m q Bs s l W) : QS m q Bs s W l W := ⟨h, Below.refl _ _, Lib.OthersKept.refl _ _ _⟩
theorem QS.step {m q Bs : Nat} {s l k : List UInt8} {W₀ W W' : World} {xs : List Value} (h : QS m q Bs s W₀ l W) (hx : xs = byteCells k) (hb : BldU (q + 1) (q + 1) (byteCells l ++ xs) W') (hB : Below (q + 1) W W') (hO : Lib.OthersKept 5 (some (q + 1)) W W') : QS m q Bs s W₀ (l ++ k) W' :=
  ⟨h.1.write (by rw [byteCells_append, ← hx]; exact hb.b) hB hO, h.2.1.trans hB, h.2.2.trans hO⟩
theorem QS.others {m q Bs : Nat} {s l l' : List UInt8} {W W' : World} (h0 : QI m q Bs s l W) (h : QS m q Bs s W l' W') : KeepsOthers W W' := by
  refine ⟨h.2.1.size, fun k o hk ho => h.2.2 k o hk ?_ ?_⟩
  · intro e
    injection e with e
    subst e
    obtain ⟨cs, hb⟩ := h0.blt
    rw [hk] at hb
    injection hb with hb
    subst hb
    cases ho
  · intro c fz e
    subst e
    cases ho
theorem QS.kpt {m q Bs n₀ : Nat} {s l l' : List UInt8} {W W' : World} (h0 : QI m q Bs s l W) (hn : n₀ ≤ q + 1) (h : QS m q Bs s W l' W') : Kpt Bs n₀ W W' := ⟨h.1.txt.trans h0.txt.symm, h.2.1.mono hn⟩
theorem qbyte {m q Bs : Nat} {s l : List UInt8} {W₀ W : World} (h : QS m q Bs s W₀ l W) (hl : l.length + 1 ≤ 140737488355328) (c : Int) (u : UInt8) (hu : c = u.toNat) :
    Calls Tryd.prog 27 #[.pointer (some ⟨q + 1, 0, none⟩), .int .u8 c] W fun e W' => e = .returned .nilIface ∧ QS m q Bs s W₀ (l ++ [u]) W' := by
  refine (wbyte_k (q + 1) (q + 1) _ c W h.1.bld (by rw [byteCells_length]; exact hl) (by have := h.1.size; omega)).mono ?_
  rintro e W' ⟨rfl, hb, hB, hO⟩
  exact ⟨rfl, h.step (k := [u]) (by rw [hu]; rfl) hb hB hO⟩
theorem qrune {m q Bs : Nat} {s l : List UInt8} {W₀ W : World} (h : QS m q Bs s W₀ l W) (hl : l.length + 4 ≤ 140737488355328) (r : Nat) (hr : r ≤ 1114111) :
    Calls Tryd.prog 28 #[.pointer (some ⟨q + 1, 0, none⟩), .int .i32 (r : Int)] W fun e W' => (∃ v, e = .returned v) ∧ QS m q Bs s W₀ (l ++ encodeRune (r : Int)) W' := by
  refine (wrune_k (q + 1) (q + 1) _ (r : Int) (by omega) (by omega) W h.1.bld (by rw [byteCells_length]; exact hl) (by have := h.1.size; omega)).mono ?_
  rintro e W' ⟨rfl, hb, hB, hO⟩
  exact ⟨⟨_, rfl⟩, h.step (byteCells_encodeRune _).symm hb hB hO⟩
theorem qstr {m q Bs : Nat} {s l : List UInt8} {W₀ W : World} (h : QS m q Bs s W₀ l W) (k : List UInt8) (hl : l.length + k.length ≤ 140737488355328) :
    Calls Tryd.prog 29 #[.pointer (some ⟨q + 1, 0, none⟩), .string ⟨k.toArray⟩] W fun e W' => (∃ v, e = .returned v) ∧ QS m q Bs s W₀ (l ++ k) W' := by
  refine (wstring_k (q + 1) (q + 1) _ _ W h.1.bld (by rw [byteCells_length]; exact hl) (by have := h.1.size; omega)).mono ?_
  rintro e W' ⟨rfl, hb, hB, hO⟩
  exact ⟨⟨_, rfl⟩, h.step rfl hb hB hO⟩
/-- A rune's mark. -/
theorem mark_has {r : Nat} {c : UInt8} (h : escOf r = some c) : Maps.has markD (runeL (r : Int)) = true ∧ ∀ z, markD.atKey (runeL (r : Int)) z = .lit (runeL (c.toNat : Int)) := by
  unfold escOf at h
  repeat' split at h
  all_goals first
    | (cases h; done)
    | (injection h with h; subst h; subst_vars; exact ⟨by decide, fun z => rfl⟩)
theorem mark_none {r : Nat} (h : escOf r = none) : Maps.has markD (runeL (r : Int)) = false := by
  cases e : Maps.has markD (runeL (r : Int))
  · rfl
  · rcases mark_cases e with h1 | h1 | h1 | h1 | h1 | h1 | h1
    all_goals
      unfold runeL at h1
      injection h1 with _ h1
      have h2 : r = 8 ∨ r = 9 ∨ r = 10 ∨ r = 12 ∨ r = 13 ∨ r = 34 ∨ r = 92 := by omega
      rcases h2 with rfl | rfl | rfl | rfl | rfl | rfl | rfl <;> cases h
/-- What the rounds have written. -/
def quoteLid (rs : List (Nat × Nat)) : List UInt8 := rs.flatMap fun x => quoteR (lid x.2)
theorem quoteLid_snoc (rs : List (Nat × Nat)) (k r : Nat) : quoteLid (rs ++ [(k, r)]) = quoteLid rs ++ quoteR (lid r) := by simp [quoteLid]
theorem quoteLid_len : ∀ rs : List (Nat × Nat), (quoteLid rs).length ≤ 6 * rs.length
  | [] => Nat.le_refl _
  | x :: rs => by
    have h1 := quoteR_len (lid x.2)
    have h2 := quoteLid_len rs
    have e : quoteLid (x :: rs) = quoteR (lid x.2) ++ quoteLid rs := by simp [quoteLid]
    rw [e, List.length_append, List.length_cons]
    omega
theorem quoteLid_runes (s : List UInt8) : quoteLid (runesL s) = quoteOf (runesL s) := flatMap_same fun x hx => by rw [lid_self (runes_le hx)]
theorem hex_at (k : Nat) (h : k < 16) (h' : k < ({ data := #[48, 49, 50, 51, 52, 53, 54, 55, 56, 57, 97, 98, 99, 100, 101, 102] } : ByteArray).size) : ((({ data := #[48, 49, 50, 51, 52, 53, 54, 55, 56, 57, 97, 98, 99, 100, 101, 102] } : ByteArray)[k]'h').toNat : Int) = ((hexL.getD k 0).toNat : Int) := by
  rw [show hexL.getD k 0 = hexL[k]'h by rw [List.getD_eq_getElem?_getD, List.getElem?_eq_getElem (show k < hexL.length from h)]; rfl]
  rfl
theorem qhex {m q Bs : Nat} {s l : List UInt8} {W₀ W : World} (h : QS m q Bs s W₀ l W) (hl : l.length + 1 ≤ 140737488355328) (k : Nat) (hk : k < 16) :
    ∀ h' : k < ({ data := #[48, 49, 50, 51, 52, 53, 54, 55, 56, 57, 97, 98, 99, 100, 101, 102] } : ByteArray).size, Calls Tryd.prog 27 #[.pointer (some ⟨q + 1, 0, none⟩), .int .u8 ((({ data := #[48, 49, 50, 51, 52, 53, 54, 55, 56, 57, 97, 98, 99, 100, 101, 102] } : ByteArray)[k]'h').toNat : Int)] W fun e W' => e = .returned .nilIface ∧ QS m q Bs s W₀ (l ++ [hexL.getD k 0]) W' := fun h' =>
  qbyte h hl _ _ (hex_at k hk h')
end Go.Proofs.YtgeefnmgejnemaaDoor
