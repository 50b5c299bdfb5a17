/- A run on closed data, reckoned by the kernel: maps whose keys are integers, texts and bools. -/
import Derived.Test.YtgidmgkebkodoaaGreatDoorEv8
import Derived.MapKept
set_option linter.unusedSimpArgs false
set_option linter.unusedVariables false
set_option linter.unusedSectionVars false
namespace Go.Proofs.YtgidmgkebkodoaaGreatDoor
open Go.RowKit
namespace Ev
variable [Vars]

section
variable {P : Program} {σ : Sg} {w : World} {t : Tr} {n : Nat}
theorem key_eq {kd : TypeDesc} {k k' : Value} (h : keyOK kd k = true) (hr : VR σ k k') : k' = k := by
  cases hr <;> first | rfl | (cases kd <;> simp [keyOK] at h)
theorem run_key {kt : TypeId} {kd : TypeDesc} {k : Value} (hu : P.underlying kt = some kd) (h : keyOK kd k = true) (em : Bool) (w : World) : (Instr.checkKey em 10000 kt k).run P w = .ok () w := by
  show (Instr.checkKey em (9999 + 1) kt k).run P w = _
  rw [Instr.checkKey]
  rw [Sem.run_bind, run_underlying hu]
  cases kd <;> cases k <;> first | rfl | simp [keyOK] at h
def kindOK : TypeDesc → Bool
  | .int _ | .string | .bool => true
  | _ => false
theorem run_kind {kt : TypeId} {kd : TypeDesc} {k : Value} (hu : P.underlying kt = some kd) (h : kindOK kd = true) (em : Bool) (w : World) : (Instr.checkKey em 10000 kt k).run P w = .ok () w := by
  show (Instr.checkKey em (9999 + 1) kt k).run P w = _
  rw [Instr.checkKey]
  rw [Sem.run_bind, run_underlying hu]
  cases kd <;> first | (simp [kindOK] at h; done) | (cases k <;> rfl)
theorem sameNow_eq {kd : TypeDesc} {k a a' : Value} {b : Bool} (h : Instr.sameNow kd k a = some b) (hr : VR σ a a') : Instr.sameNow kd k a' = some b := by
  cases hr <;> first | exact h | (cases kd <;> cases k <;> simp [Instr.sameNow] at h)
theorem findNow_rel {kd : TypeDesc} {k : Value} : ∀ {l l' : List MapEntry} (i : Nat) {r : Option (Nat × Value)}, MR σ l l' → Instr.findNow kd k l i = some r →
    ∃ r', Instr.findNow kd k l' i = some r' ∧ (r = none ∧ r' = none ∨ ∃ j v v', r = some (j, v) ∧ r' = some (j, v') ∧ VR σ v v') := by
  intro l l' i r hm
  induction hm generalizing i with
  | nil => intro h; cases h; exact ⟨none, rfl, .inl ⟨rfl, rfl⟩⟩
  | @cons e e' l l' hk hv hb hm ih =>
    intro h
    simp only [Instr.findNow] at h ⊢
    cases hs : Instr.sameNow kd k e.key with
    | none => rw [hs] at h; cases h
    | some b =>
      rw [hs] at h
      rw [sameNow_eq hs hk]
      cases b with
      | true => cases h; exact ⟨_, rfl, .inr ⟨i, e.val, e'.val, rfl, rfl, hv⟩⟩
      | false => exact ih (i + 1) h
theorem run_find {kt : TypeId} {kd : TypeDesc} {k : Value} {l : List MapEntry} {r : Option (Nat × Value)} (hu : P.underlying kt = some kd) (h : Instr.findNow kd k l 0 = some r) (w : World) : (Instr.findKey kt k l).run P w = .ok r w := by
  unfold Instr.findKey
  rw [Sem.run_bind, run_underlying hu]
  simp [h]

/-- A type's zero value. -/
def zeroW (P : Program) (ty : TypeId) : Option Value :=
  match P.info? ty with
  | some i => match i.zero with
    | some z => bif plain 4 z then some z else none
    | none => none
  | none => none
theorem zeroW_ok {ty : TypeId} {z : Value} (h : zeroW P ty = some z) (w : World) : (zeroValue ty).run P w = .ok z w ∧ VR σ z z := by
  unfold zeroW at h
  cases hi : P.info? ty with
  | none => rw [hi] at h; cases h
  | some i =>
    rw [hi] at h
    simp only at h
    cases hz : i.zero with
    | none => rw [hz] at h; cases h
    | some z' =>
      rw [hz] at h
      simp only at h
      cases hp : plain 4 z' with
      | false => rw [hp] at h; cases h
      | true =>
        rw [hp, cond_true, Option.some.injEq] at h
        subst h
        exact ⟨by simp [zeroValue, typeInfo, hi, hz], plain_rel 4 _ hp⟩

/-- The entries of a map. -/
def entriesV (t : Tr) : Value → Option (List MapEntry)
  | .map none => some []
  | .map (some r) => match t.mem r with
    | some (.map l _) => some l
    | _ => none
  | _ => none
def evLookup (P : Program) (t : Tr) (ty : TypeId) (x ix : Value) (ok : Bool) : Option Value :=
  match P.underlying ty with
  | some (.map kt et) => match P.underlying kt, entriesV t x with
    | some kd, some l => bif keyOK kd ix then
        match Instr.findNow kd ix l 0 with
        | some (some (_, v)) => some (bif ok then .tuple #[v, .bool true] else v)
        | some none => match zeroW P et with
          | some z => some (bif ok then .tuple #[z, .bool false] else z)
          | none => none
        | none => none
      else bif kindOK kd && l.isEmpty then
        match zeroW P et with
        | some z => some (bif ok then .tuple #[z, .bool false] else z)
        | none => none
      else none
    | _, _ => none
  | _ => none
theorem entries_ok {x x' : Value} {l : List MapEntry} (H : Holds σ t.mem w) (hx : VR σ x x') (h : entriesV t x = some l) :
    ∃ l', MR σ l l' ∧ (x' = .map none ∧ l' = [] ∨ ∃ r k, x' = .map (some r) ∧ w.heap[r]? = some (.map l'.toArray k)) := by
  unfold entriesV at h
  split at h
  · cases h
    cases hx
    exact ⟨[], .nil, .inl ⟨rfl, rfl⟩⟩
  · rename_i r
    split at h
    case h_2 => cases h
    rename_i l2 k hm
    cases h
    cases hx with
    | map r p hp =>
      obtain ⟨q, x, h1, h2, h3⟩ := H.lies _ _ hm
      rw [hp] at h1; cases h1
      cases h3 with
      | map l l' k p h => exact ⟨l', h, .inr ⟨p.blk, k, rfl, h2⟩⟩
  · cases h
theorem evLookup_ok {ty : TypeId} {x x' ix ix' v : Value} {ok : Bool} (H : Holds σ t.mem w) (hx : VR σ x x') (hi : VR σ ix ix') (h : evLookup P t ty x ix ok = some v) :
    ∃ v', VR σ v v' ∧ (Instr.lookup ty x' ix' ok).run P w = .ok v' w := by
  unfold evLookup at h
  split at h
  case h_2 => cases h
  rename_i kt et hu
  split at h
  case h_2 => cases h
  rename_i kd l hk hl
  obtain ⟨l', hm, hw⟩ := entries_ok H hx hl
  cases hko : keyOK kd ix with
  | false =>
    rw [hko, cond_false] at h
    cases hc : (kindOK kd && l.isEmpty) with
    | false => rw [hc] at h; cases h
    | true =>
    rw [hc, cond_true] at h
    simp only [Bool.and_eq_true, List.isEmpty_iff] at hc
    obtain ⟨hkd, hl0⟩ := hc
    subst hl0
    cases hm
    split at h
    case h_2 => cases h
    rename_i z hz
    obtain ⟨z1, z2⟩ := zeroW_ok (σ := σ) hz w
    have f1 : Instr.findNow kd ix' [] 0 = some none := rfl
    refine ⟨bif ok then .tuple #[z, .bool false] else z, ?_, ?_⟩
    · cases h
      cases ok with
      | true => exact VR.mkTuple (LR.cons z2 (LR.cons (.bool false) LR.nil))
      | false => exact z2
    · rcases hw with ⟨rfl, _⟩ | ⟨r, k, rfl, hw⟩
      · simp only [Instr.lookup, Sem.run_bind, run_underlying hu, Result.andThen_ok, Sem.run_pure, run_kind hk hkd, run_find hk f1, z1]
        cases ok <;> rfl
      · simp only [Instr.lookup, Sem.run_bind, run_underlying hu, Result.andThen_ok, Sem.run_pure, run_kind hk hkd, MapKept.run_getObj_map hw, run_find hk f1, z1]
        cases ok <;> rfl
  | true =>
  rw [hko, cond_true] at h
  have hie := key_eq hko hi
  subst hie
  have two : ∀ (a : Value) (b : Bool), VR σ v a ∨ True → True := fun _ _ _ => trivial
  split at h
  · rename_i j u hf
    obtain ⟨r', h1, h2⟩ := findNow_rel 0 hm hf
    rcases h2 with ⟨h2, _⟩ | ⟨j', u', u2, h2, h3, h4⟩
    · cases h2
    cases h2
    subst h3
    refine ⟨bif ok then .tuple #[u2, .bool true] else u2, ?_, ?_⟩
    · cases h
      cases ok with
      | true => exact VR.mkTuple (LR.cons h4 (LR.cons (.bool true) LR.nil))
      | false => exact h4
    · rcases hw with ⟨rfl, rfl⟩ | ⟨r, k, rfl, hw⟩
      · simp only [Instr.lookup, Sem.run_bind, run_underlying hu, Result.andThen_ok, Sem.run_pure, run_key hk hko, run_find hk h1]
        cases ok <;> rfl
      · simp only [Instr.lookup, Sem.run_bind, run_underlying hu, Result.andThen_ok, Sem.run_pure, run_key hk hko, MapKept.run_getObj_map hw, run_find hk h1]
        cases ok <;> rfl
  · rename_i hf
    obtain ⟨r', h1, h2⟩ := findNow_rel 0 hm hf
    rcases h2 with ⟨_, h2⟩ | ⟨j', u', u2, h2, h3, h4⟩
    case inr => cases h2
    subst h2
    split at h
    case h_2 => cases h
    rename_i z hz
    obtain ⟨z1, z2⟩ := zeroW_ok (σ := σ) hz w
    refine ⟨bif ok then .tuple #[z, .bool false] else z, ?_, ?_⟩
    · cases h
      cases ok with
      | true => exact VR.mkTuple (LR.cons z2 (LR.cons (.bool false) LR.nil))
      | false => exact z2
    · rcases hw with ⟨rfl, rfl⟩ | ⟨r, k, rfl, hw⟩
      · simp only [Instr.lookup, Sem.run_bind, run_underlying hu, Result.andThen_ok, Sem.run_pure, run_key hk hko, run_find hk h1, z1]
        cases ok <;> rfl
      · simp only [Instr.lookup, Sem.run_bind, run_underlying hu, Result.andThen_ok, Sem.run_pure, run_key hk hko, MapKept.run_getObj_map hw, run_find hk h1, z1]
        cases ok <;> rfl
  · cases h

/-- A look-up in a map that is known up to its order. -/
def evLookupP (P : Program) (t : Tr) (ty : TypeId) (x ix : Value) (ok : Bool) : Option Value :=
  match P.underlying ty, x with
  | some (.map kt et), .map (some r) => match P.underlying kt, t.mem r with
    | some kd, some (.pmap l) => bif keyOK kd ix then
        match Instr.findNow kd ix l 0 with
        | some (some (_, v)) => some (bif ok then .tuple #[v, .bool true] else v)
        | some none => match zeroW P et with
          | some z => some (bif ok then .tuple #[z, .bool false] else z)
          | none => none
        | none => none
      else none
    | _, _ => none
  | _, _ => none
theorem evLookupP_ok {ty : TypeId} {x x' ix ix' v : Value} {ok : Bool} (H : Holds σ t.mem w) (hx : VR σ x x') (hi : VR σ ix ix') (h : evLookupP P t ty x ix ok = some v) :
    ∃ v', VR σ v v' ∧ (Instr.lookup ty x' ix' ok).run P w = .ok v' w := by
  unfold evLookupP at h
  split at h
  case h_2 => cases h
  rename_i kt et r hu
  split at h
  case h_2 => cases h
  rename_i kd l hk hl
  cases hx with
  | map r p hp =>
  obtain ⟨q, ob, h1, h2, h3⟩ := H.lies _ _ hl
  rw [hp] at h1; cases h1
  cases h3 with
  | pmap l l' k p hpm =>
  cases hko : keyOK kd ix with
  | false => rw [hko] at h; cases h
  | true =>
  rw [hko, cond_true] at h
  have hie := key_eq hko hi
  subst hie
  split at h
  · rename_i j u hf
    obtain ⟨r', g1, g2⟩ := hpm kd _ hko _ hf
    rcases g2 with ⟨g2, _⟩ | ⟨j1, j2, u2, g2, g3, g4⟩
    · cases g2
    cases g2
    subst g3
    refine ⟨bif ok then .tuple #[u, .bool true] else u, ?_, ?_⟩
    · cases h
      cases ok with
      | true => exact VR.mkTuple (LR.cons (plain_rel 4 _ g4) (LR.cons (.bool true) LR.nil))
      | false => exact plain_rel 4 _ g4
    · simp only [Instr.lookup, Sem.run_bind, run_underlying hu, Result.andThen_ok, Sem.run_pure, run_key hk hko, MapKept.run_getObj_map h2, run_find hk g1]
      cases ok <;> rfl
  · rename_i hf
    obtain ⟨r', g1, g2⟩ := hpm kd _ hko _ hf
    rcases g2 with ⟨_, g2⟩ | ⟨j1, j2, u2, g2, g3, g4⟩
    case inr => cases g2
    subst g2
    split at h
    case h_2 => cases h
    rename_i z hz
    obtain ⟨z1, z2⟩ := zeroW_ok (σ := σ) hz w
    refine ⟨bif ok then .tuple #[z, .bool false] else z, ?_, ?_⟩
    · cases h
      cases ok with
      | true => exact VR.mkTuple (LR.cons z2 (LR.cons (.bool false) LR.nil))
      | false => exact z2
    · simp only [Instr.lookup, Sem.run_bind, run_underlying hu, Result.andThen_ok, Sem.run_pure, run_key hk hko, MapKept.run_getObj_map h2, run_find hk g1, z1]
      cases ok <;> rfl
  · cases h

theorem findNow_at {kd : TypeDesc} {k : Value} (hk : keyOK kd k = true) : ∀ {l : List MapEntry} {i j : Nat} {v : Value}, Instr.findNow kd k l i = some (some (j, v)) → i ≤ j ∧ ∃ e, l[j - i]? = some e ∧ e.key = k
  | [], i, j, v, h => by simp [Instr.findNow] at h
  | e :: l, i, j, v, h => by
    simp only [Instr.findNow] at h
    cases hs : Instr.sameNow kd k e.key with
    | none => rw [hs] at h; cases h
    | some b =>
      rw [hs] at h
      cases b with
      | true =>
        simp only [Option.some.injEq, Prod.mk.injEq] at h
        obtain ⟨rfl, _⟩ := h
        refine ⟨Nat.le_refl _, e, by simp, ?_⟩
        generalize e.key = q at hs
        cases kd <;> cases k <;> simp [keyOK] at hk <;> cases q <;> simp [Instr.sameNow, MapKept.bytes_beq] at hs <;> simp_all [MapKept.bytes_beq]
      | false =>
        obtain ⟨h1, e2, h2, h3⟩ := findNow_at hk h
        refine ⟨by omega, e2, ?_, h3⟩
        rw [show j - i = (j - (i + 1)) + 1 by omega]
        simpa using h2
theorem same_bits {kd : TypeDesc} {k : Value} (hk : keyOK kd k = true) : Instr.sameBits 10000 k k = true := by
  show Instr.sameBits (9999 + 1) k k = true
  cases kd <;> cases k <;> simp [keyOK] at hk <;> simp [Instr.sameBits, MapKept.bytes_beq]
theorem MR.modify {l l' : List MapEntry} (h : MR σ l l') : ∀ (i : Nat) {k v v' : Value}, VR σ k k → VR σ v v' → MR σ (l.modify i fun e => { e with key := k, val := v }) (l'.modify i fun e => { e with key := k, val := v' }) := by
  induction h with
  | nil => intro i k v v' _ _; cases i <;> exact .nil
  | @cons e e' l l' hk hv hb hm ih =>
    intro i k v v' h1 h2
    cases i with
    | zero => exact .cons h1 h2 hb hm
    | succ i => exact .cons hk hv hb (ih i h1 h2)
theorem MR.snoc {l l' : List MapEntry} (h : MR σ l l') {e e' : MapEntry} (hk : VR σ e.key e'.key) (hv : VR σ e.val e'.val) (hb : e.born = e'.born) : MR σ (l ++ [e]) (l' ++ [e']) := by
  induction h with
  | nil => exact .cons hk hv hb .nil
  | cons h1 h2 h3 _ ih => exact .cons h1 h2 h3 ih
theorem MR.erase {l l' : List MapEntry} (h : MR σ l l') : ∀ i, MR σ (l.eraseIdx i) (l'.eraseIdx i) := by
  induction h with
  | nil => intro i; exact .nil
  | cons hk hv hb hm ih =>
    intro i
    cases i with
    | zero => exact hm
    | succ i => exact .cons hk hv hb (ih i)
theorem MR.length {l l' : List MapEntry} (h : MR σ l l') : l.length = l'.length := by
  induction h with
  | nil => rfl
  | cons _ _ _ _ ih => simp [ih]

def evMapUpdate (P : Program) (t : Tr) (ty : TypeId) (m k v : Value) : Option Tr :=
  match P.underlying ty, m with
  | some (.map kt _), .map (some r) => match P.underlying kt, t.mem r with
    | some kd, some (.map l c) => bif keyOK kd k && Nat.blt r top then
        match Instr.findNow kd k l 0 with
        | some (some (i, _)) => some (Tr.set 24 t r (some (.map (l.modify i fun e => { e with key := k, val := v }) c)))
        | some none => some (Tr.set 24 t r (some (.map (l ++ [(⟨k, v, c⟩ : MapEntry)]) (c + 1))))
        | none => none
      else none
    | _, _ => none
  | _, _ => none
theorem evMapUpdate_ok {ty : TypeId} {m m' k k' v v' : Value} {t' : Tr} (H : Holds σ t.mem w) (hm : VR σ m m') (hk : VR σ k k') (hv : VR σ v v') (h : evMapUpdate P t ty m k v = some t') :
    ∃ w', Ext t.mem n n σ σ t'.mem w w' ∧ (Instr.mapUpdate ty m' k' v').run P w = .ok () w' := by
  unfold evMapUpdate at h
  split at h
  case h_2 => cases h
  rename_i kt et r hu
  split at h
  case h_2 => cases h
  rename_i kd l c hkt hl
  cases hc : (keyOK kd k && Nat.blt r top) with
  | false => rw [hc] at h; cases h
  | true =>
  rw [hc, cond_true] at h
  simp only [Bool.and_eq_true] at hc
  obtain ⟨hko, hr⟩ := hc
  have hr : r < top := Nat.le_of_ble_eq_true hr
  have hie := key_eq hko hk
  subst hie
  cases hm with
  | map r p hp =>
  obtain ⟨q, x, h1, h2, h3⟩ := H.lies _ _ hl
  rw [hp] at h1; cases h1
  cases h3 with
  | map l l' c p hmr =>
  split at h
  · rename_i i u hf
    cases h
    obtain ⟨r', f1, f2⟩ := findNow_rel 0 hmr hf
    rcases f2 with ⟨f2, _⟩ | ⟨j', u', u2, f2, f3, f4⟩
    · cases f2
    cases f2
    subst f3
    obtain ⟨_, e, g1, g2⟩ := findNow_at hko f1
    rw [Nat.sub_zero] at g1
    have e1 := Ext.setObj (n := n) H hl hp (o' := .map (l.modify i fun e => { e with key := k', val := v }) c) (x' := .map (l'.modify i fun e => { e with key := k', val := v' }).toArray c) (.map _ _ _ _ (hmr.modify i hk hv))
    refine ⟨_, by rw [Tr.mem_set hr]; exact e1, ?_⟩
    have hkk : ((l'.toArray[i]?).map (·.key)).getD k' = k' := by simp [g1, g2]
    simp only [Instr.mapUpdate, Sem.run_bind, run_underlying hu, Result.andThen_ok, Sem.run_pure, run_key hkt hko, MapKept.run_getObj_map h2, run_find hkt f1, hkk, Instr.keyThatStays, same_bits hko, if_true, MapKept.run_setObj_map _ h2]
    simp
  · rename_i hf
    cases h
    obtain ⟨r', f1, f2⟩ := findNow_rel 0 hmr hf
    rcases f2 with ⟨_, f2⟩ | ⟨j', u', u2, f2, f3, f4⟩
    case inr => cases f2
    subst f2
    have e1 := Ext.setObj (n := n) H hl hp (o' := .map (l ++ [(⟨k', v, c⟩ : MapEntry)]) (c + 1)) (x' := .map (l' ++ [(⟨k', v', c⟩ : MapEntry)]).toArray (c + 1)) (.map _ _ _ _ (hmr.snoc (e := ⟨k', v, c⟩) (e' := ⟨k', v', c⟩) hk hv rfl))
    refine ⟨_, by rw [Tr.mem_set hr]; exact e1, ?_⟩
    simp only [Instr.mapUpdate, Sem.run_bind, run_underlying hu, Result.andThen_ok, Sem.run_pure, run_key hkt hko, MapKept.run_getObj_map h2, run_find hkt f1, MapKept.run_setObj_map _ h2]
    simp
  · cases h

variable {o : Oper} {ρ : Operand → Value}
/-- A new map. -/
def evMakeMap (t : Tr) (n : Nat) : Option Nx := bif Nat.blt n top then some (.val (.map (some n)) (Tr.set 24 t n (some (.map [] 0))) (n + 1)) else none
theorem evMakeMap_ok {y : Nx} (H : Holds σ t.mem w) (h : evMakeMap t n = some y) (hrun : (execOp ρ o).run P w = .ok (.value (.map (some w.heap.size))) (w.alloc (.map #[] 0))) : OpOK P o ρ w σ t.mem n y := by
  unfold evMakeMap at h
  cases hb : Nat.blt n top with
  | false => rw [hb] at h; cases h
  | true =>
    rw [hb, cond_true, Option.some.injEq] at h
    subst h
    intro hf
    have hn : σ n = none := hf n (Nat.le_refl _) (Nat.lt_succ_self _)
    have e1 := Ext.alloc H hn (o := .map [] 0) (x := .map #[] 0) (p := ⟨w.heap.size, 0, 0, 0⟩) rfl (.map [] [] 0 _ .nil)
    exact ⟨_, _, .map (some w.heap.size), by rw [Tr.mem_set (Nat.le_of_ble_eq_true hb)]; exact e1, .map n _ Sg.put_same, .inl hrun⟩
end
end Ev
end Go.Proofs.YtgidmgkebkodoaaGreatDoor
