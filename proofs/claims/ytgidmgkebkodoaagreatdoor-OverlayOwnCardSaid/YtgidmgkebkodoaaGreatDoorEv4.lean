/- A run on closed data, reckoned by the kernel, 4: structs, new blocks, places, slices. -/
import Derived.Test.YtgidmgkebkodoaaGreatDoorEv3
set_option linter.unusedSimpArgs false
set_option linter.unusedVariables false
set_option linter.unusedSectionVars false
namespace Go.Proofs.YtgidmgkebkodoaaGreatDoor
open Go.RowKit
namespace Ev
variable [Vars]

section
variable {P : Program} {o : Oper} {ρ : Operand → Value} {w : World} {σ : Sg} {t : Tr} {n : Nat} {r : Env}

/-- All operands' values. -/
def envAll (r : Env) : List Operand → Option (List Value)
  | [] => some []
  | x :: xs => match r x with
    | some v => match envAll r xs with
      | some vs => some (v :: vs)
      | none => none
    | none => none
theorem envAll_ok (hr : r.ok σ ρ) : ∀ (xs : List Operand) (vs : List Value), envAll r xs = some vs → LR σ vs (xs.map ρ)
  | [], vs, h => by cases h; exact LR.nil
  | x :: xs, vs, h => by
    simp only [envAll] at h
    split at h
    · rename_i v hv
      split at h
      · rename_i us hus
        cases h
        exact LR.cons (hr x v hv) (envAll_ok hr xs us hus)
      · cases h
    · cases h

/-- A new row. -/
theorem Ext.row {h : Mem} (H : Holds σ h w) (hf : σ n = none) {cs cs' : List Value} (hl : LR σ cs cs') (e : TypeId) :
    Ext h n (n + 1) σ (σ.put n ⟨w.heap.size, 0, cs.length, 0⟩) (fun j => if j = n then some (.cells cs e 0) else h j) w (w.alloc (.cells cs'.toArray e)) :=
  Ext.alloc H hf rfl (.cells cs e 0 _ _ _ (by simp [hl.1]) (Nat.le_refl _) rfl (fun i x hx => by
    obtain ⟨y, hy, hr⟩ := hl.get? hx
    exact ⟨y, by simpa using hy, hr.mono (Sg.put_le hf)⟩) (fun o _ h => by simp at h))

theorem fresh_at {k : Nat} (hf : Fresh σ n k) (hk : n < k) : σ n = none := hf n (Nat.le_refl _) hk

theorem OpOK.row (H : Holds σ t.mem w) {cs cs' : List Value} (hl : LR σ cs cs') (e : TypeId) (hn : n < top) (hr : (execOp ρ o).run P w = .ok (.value (.pointer (some ⟨w.heap.size, 0, none⟩))) (w.alloc (.cells cs'.toArray e))) :
    OpOK P o ρ w σ t.mem n (.val (.pointer (some ⟨n, 0, none⟩)) (Tr.set 24 t n (some (.cells cs e 0))) (n + 1)) := by
  intro hf
  have hn0 := fresh_at hf (Nat.lt_succ_self n)
  exact ⟨_, _, _, by rw [Tr.mem_set hn]; exact Ext.row H hn0 hl e, .ptr n 0 _ Sg.put_same, .inl hr⟩

/-- A zero value's cells. -/
def zeroV (P : Program) (ty : TypeId) : Option (List Value) :=
  match P.info? ty with
  | some i => match i.zero with
    | some z => bif plain 4 z then some z.cells.toList else none
    | none => none
  | none => none
theorem zeroV_ok {ty : TypeId} {cs : List Value} (h : zeroV P ty = some cs) : ∃ z, (zeroValue ty).run P w = .ok z w ∧ z.cells.toList = cs ∧ LR σ cs cs := by
  unfold zeroV at h
  cases hi : P.info? ty with
  | none => rw [hi] at h; cases h
  | some i =>
    rw [hi] at h
    simp only at h
    cases hz : i.zero with
    | none => rw [hz] at h; cases h
    | some z =>
      rw [hz] at h
      simp only at h
      cases hp : plain 4 z with
      | false => rw [hp] at h; cases h
      | true =>
        rw [hp, cond_true, Option.some.injEq] at h
        subst h
        exact ⟨z, by simp [zeroValue, typeInfo, hi, hz], rfl, (plain_rel 4 z hp).cells⟩

def evAlloc (P : Program) (t : Tr) (n : Nat) (ty : TypeId) : Option Nx :=
  match zeroV P ty with
  | some cs => bif Nat.blt n top then some (.val (.pointer (some ⟨n, 0, none⟩)) (Tr.set 24 t n (some (.cells cs ty 0))) (n + 1)) else none
  | none => none
theorem evAlloc_ok {ty : TypeId} {x : Nx} (H : Holds σ t.mem w) (ho : o.op = .alloc ty) (h : evAlloc P t n ty = some x) : OpOK P o ρ w σ t.mem n x := by
  unfold evAlloc at h
  split at h
  · rename_i cs hcs
    cases hb : Nat.blt n top with
    | false => rw [hb] at h; cases h
    | true =>
      rw [hb, cond_true, Option.some.injEq] at h
      subst h
      obtain ⟨z, hz, hzc, hl⟩ := zeroV_ok (w := w) (σ := σ) hcs
      refine OpOK.row H hl ty (Nat.le_of_ble_eq_true hb) ?_
      simp [execOp, ho, Instr.alloc, Sem.run_bind, hz, newVar, newRow, ← hzc]
  · cases h

def evBox (t : Tr) (n : Nat) (ty : TypeId) (v : Value) : Option Nx :=
  bif Nat.blt n top then some (.val (.pointer (some ⟨n, 0, none⟩)) (Tr.set 24 t n (some (.cells v.cells.toList ty 0))) (n + 1)) else none
theorem evBox_ok {ty : TypeId} {x : Operand} {v : Value} {y : Nx} (H : Holds σ t.mem w) (ho : o.op = .box ty x) (hv : VR σ v (ρ x)) (h : evBox t n ty v = some y) : OpOK P o ρ w σ t.mem n y := by
  unfold evBox at h
  cases hb : Nat.blt n top with
  | false => rw [hb] at h; cases h
  | true =>
    rw [hb, cond_true, Option.some.injEq] at h
    subst h
    refine OpOK.row H hv.cells ty (Nat.le_of_ble_eq_true hb) ?_
    simp [execOp, ho, Instr.box, Sem.run_bind, newVar, newRow]

/-! a struct, a row, filled part by part -/
def fillL (place : Nat → Option (Nat × Nat)) (cs : List Value) : List (Nat × Value) → Option (List Value)
  | [] => some cs
  | (i, v) :: rest =>
    match place i with
    | none => none
    | some (off, size) => bif Nat.beq v.cells.toList.length size && Nat.ble (off + v.cells.toList.length) cs.length then fillL place (splice cs off v.cells.toList) rest else none

theorem foldl_set (off : Nat) : ∀ (vs : List Value) (k : Nat) (arr : Array Value), off + k + vs.length ≤ arr.size →
    ((vs.zipIdx k).foldl (fun cs (x : Value × Nat) => cs.setIfInBounds (off + x.2) x.1) arr).toList = splice arr.toList (off + k) vs
  | [], k, arr, h => by simp [splice]
  | v :: vs, k, arr, h => by
    simp only [List.length_cons] at h
    rw [List.zipIdx_cons, List.foldl_cons, foldl_set off vs (k + 1) _ (by simp; omega)]
    apply List.ext_getElem?
    intro i
    rw [splice_get (by simp; omega), splice_get (by simp; omega)]
    simp only [List.length_cons, Array.getElem?_toList]
    by_cases h1 : off + (k + 1) ≤ i ∧ i < off + (k + 1) + vs.length
    · rw [if_pos h1, if_pos (by omega)]
      obtain ⟨j, rfl⟩ : ∃ j, i = off + (k + 1) + j := ⟨i - (off + (k + 1)), by omega⟩
      rw [show off + (k + 1) + j - (off + (k + 1)) = j by omega, show off + (k + 1) + j - (off + k) = j + 1 by omega]
      rfl
    · rw [if_neg h1]
      by_cases hi : i = off + k
      · subst hi
        rw [if_pos (by omega), Nat.sub_self]
        simp [show off + k < arr.size by omega]
      · rw [if_neg (by omega), Array.getElem?_setIfInBounds_ne (by omega)]

theorem LR.splice {cs cs' vs vs' : List Value} (h : LR σ cs cs') (hv : LR σ vs vs') (o : Nat) : LR σ (Ev.splice cs o vs) (Ev.splice cs' o vs') := by
  unfold Ev.splice
  rw [← hv.1]
  exact (h.take o).append (hv.append (h.drop _))

theorem fillL_ok (place : Nat → Option (Nat × Nat)) : ∀ (ps ps' : List (Nat × Value)) (cs cs' rs : List Value), LR σ cs cs' → ps.map (·.1) = ps'.map (·.1) → LR σ (ps.map (·.2)) (ps'.map (·.2)) → fillL place cs ps = some rs →
    ∃ rs', LR σ rs rs' ∧ Instr.fill place cs'.toArray ps' = some rs'.toArray
  | [], [], cs, cs', rs, hl, _, _, h => by cases h; exact ⟨cs', hl, rfl⟩
  | [], p :: ps', _, _, _, _, hm, _, _ => by simp at hm
  | p :: ps, [], _, _, _, _, hm, _, _ => by simp at hm
  | (i, v) :: ps, (i', v') :: ps', cs, cs', rs, hl, hm, hv, h => by
    simp only [List.map_cons, List.cons.injEq] at hm
    obtain ⟨rfl, hm⟩ := hm
    simp only [List.map_cons] at hv
    have hh := hv.head.cells
    simp only [fillL] at h
    simp only [Instr.fill]
    cases hp : place i with
    | none => rw [hp] at h; cases h
    | some q =>
      obtain ⟨off, size⟩ := q
      rw [hp] at h
      simp only at h ⊢
      cases hc : (Nat.beq v.cells.toList.length size && Nat.ble (off + v.cells.toList.length) cs.length) with
      | false => rw [hc] at h; cases h
      | true =>
        rw [hc, cond_true] at h
        simp only [Bool.and_eq_true] at hc
        have h1 := Nat.eq_of_beq_eq_true hc.1
        have h2 := Nat.le_of_ble_eq_true hc.2
        have hlen := hh.1
        have hlc := hl.1
        obtain ⟨rs', hr, hf⟩ := fillL_ok place ps ps' _ (Ev.splice cs' off v'.cells.toList) rs (hl.splice hh off) hm hv.tail h
        refine ⟨rs', hr, ?_⟩
        rw [if_neg (by simp only [Array.length_toList] at hlen h1 h2; simp; omega)]
        have := foldl_set off v'.cells.toList 0 cs'.toArray (by simp only [Array.length_toList] at hlen h2 ⊢; simp; omega)
        rw [← hf]
        congr 1
        apply Array.ext'
        simp only [Nat.add_zero] at this
        rw [← this, ← Array.foldl_toList, Array.toList_zipIdx]

def placesV (P : Program) : List Field → Option (List (Nat × Nat))
  | [] => some []
  | f :: fs => match sizeV P f.type with
    | some k => match placesV P fs with
      | some l => some ((f.offset, k) :: l)
      | none => none
    | none => none
theorem placesV_ok : ∀ (fs : List Field) (l : List (Nat × Nat)), placesV P fs = some l → (fs.mapM (m := Sem) fun f => do pure (f.offset, ← sizeOf f.type)).run P w = .ok l w
  | [], l, h => by cases h; rfl
  | f :: fs, l, h => by
    simp only [placesV] at h
    split at h
    · rename_i k hk
      split at h
      · rename_i l' hl'
        cases h
        have := placesV_ok fs l' hl'
        simp only [List.mapM_cons, Sem.run_bind, run_sizeV hk, Result.andThen_ok, Sem.run_pure, this]
      · cases h
    · cases h

def partsV (r : Env) : List (Nat × Operand) → Option (List (Nat × Value))
  | [] => some []
  | (i, x) :: ps => match r x with
    | some v => match partsV r ps with
      | some l => some ((i, v) :: l)
      | none => none
    | none => none
theorem partsV_ok (hr : r.ok σ ρ) : ∀ (ps : List (Nat × Operand)) (l : List (Nat × Value)), partsV r ps = some l →
    l.map (·.1) = (ps.map fun (x : Nat × Operand) => (x.1, ρ x.2)).map (·.1) ∧ LR σ (l.map (·.2)) ((ps.map fun (x : Nat × Operand) => (x.1, ρ x.2)).map (·.2))
  | [], l, h => by cases h; exact ⟨rfl, LR.nil⟩
  | (i, x) :: ps, l, h => by
    simp only [partsV] at h
    split at h
    · rename_i v hv
      split at h
      · rename_i l' hl'
        cases h
        have := partsV_ok hr ps l' hl'
        exact ⟨by simp [this.1], LR.cons (hr x v hv) this.2⟩
      · cases h
    · cases h

def evBuild (P : Program) (r : Env) (ty : TypeId) (ps : List (Nat × Operand)) : Option Value :=
  match zeroV P ty, partsV r ps with
  | some cs, some l =>
    match P.underlying ty with
    | some (.struct fs) => match placesV P fs.toList with
      | some pl => match fillL (pl[·]?) cs l with
        | some rs => some (.agg rs.toArray)
        | none => none
      | none => none
    | some (.array _ e) => match sizeV P e with
      | some k => match fillL (fun i => some (i * k, k)) cs l with
        | some rs => some (.agg rs.toArray)
        | none => none
      | none => none
    | _ => none
  | _, _ => none

theorem evBuild_ok {ty : TypeId} {ps : Array (Nat × Operand)} {v : Value} (hr : r.ok σ ρ) (h : evBuild P r ty ps.toList = some v) :
    ∃ v', VR σ v v' ∧ (Instr.build ty (ps.map fun (i, x) => (i, ρ x))).run P w = .ok v' w := by
  have hps : (ps.map fun (x : Nat × Operand) => (x.1, ρ x.2)).toList = ps.toList.map fun (x : Nat × Operand) => (x.1, ρ x.2) := by simp
  unfold evBuild at h
  split at h
  · rename_i cs l hcs hl
    obtain ⟨z, hz, hzc, hzl⟩ := zeroV_ok (w := w) (σ := σ) hcs
    obtain ⟨h1, h2⟩ := partsV_ok hr _ _ hl
    have hza : z.cells = cs.toArray := by rw [← hzc]
    split at h
    · rename_i fs hu
      split at h
      · rename_i pl hpl
        split at h
        · rename_i rs hrs
          cases h
          obtain ⟨rs', hrr, hf⟩ := fillL_ok (pl[·]?) _ _ _ _ _ hzl h1 h2 hrs
          refine ⟨_, .mkAgg hrr, ?_⟩
          have hp := placesV_ok (P := P) (w := w) _ _ hpl
          simp only [Instr.build, Sem.run_bind, hz, Result.andThen_ok, run_underlying hu, Sem.run_pure, Array.mapM_eq_mapM_toList, Sem.run_map, hp, hza]
          have : (fun (x : Nat) => (pl.toArray)[x]?) = fun x => pl[x]? := by funext x; simp
          rw [hps, this, hf]
          rfl
        · cases h
      · cases h
    · rename_i k e hu
      split at h
      · rename_i sz hsz
        split at h
        · rename_i rs hrs
          cases h
          obtain ⟨rs', hrr, hf⟩ := fillL_ok _ _ _ _ _ _ hzl h1 h2 hrs
          refine ⟨_, .mkAgg hrr, ?_⟩
          simp only [Instr.build, Sem.run_bind, hz, Result.andThen_ok, run_underlying hu, Sem.run_pure, run_sizeV hsz, hza]
          rw [hps, hf]
          rfl
        · cases h
      · cases h
    · cases h
  · cases h

/-- A row's cells, all zero. -/
def repV (zs : List Value) (k : Nat) : List Value := (List.range k).map fun i => zs.getD (i % zs.length) undef
theorem repV_len (zs : List Value) (k : Nat) : (repV zs k).length = k := by simp [repV]
theorem repV_ok {zs : List Value} (hl : LR σ zs zs) (k : Nat) (hz : 0 < k → 0 < zs.length) : LR σ (repV zs k) (repV zs k) := by
  refine ⟨rfl, fun i a b => ?_⟩
  simp only [repV, List.getElem_map, List.getElem_range]
  have hk : i < k := by simpa [repV] using a
  have : i % zs.length < zs.length := Nat.mod_lt _ (hz (by omega))
  rw [List.getD_eq_getElem?_getD, List.getElem?_eq_getElem this]
  exact hl.2 _ this this
theorem repV_eq {zs : List Value} {k : Nat} (hz : 0 < k → 0 < zs.length) : ((Array.range k).map (zs.toArray[· % zs.toArray.size]!)) = (repV zs k).toArray := by
  apply Array.ext'
  simp only [Array.toList_map, Array.toList_range, repV]
  apply List.map_congr_left
  intro i hi
  have hk : i < k := by simpa using hi
  have : i % zs.length < zs.length := Nat.mod_lt _ (hz (by omega))
  simp [this, List.getD_eq_getElem?_getD, List.getElem?_eq_getElem]

def evBuildSlice (P : Program) (r : Env) (t : Tr) (n : Nat) (ty : TypeId) (len : Nat) (ps : List (Nat × Operand)) : Option Nx :=
  match P.underlying ty with
  | some (.slice e) =>
    match sizeV P e, zeroV P e, partsV r ps with
    | some k, some zs, some l =>
      bif Nat.ble (len * k) 16777216 && Nat.beq zs.length k && Nat.blt n top then
        match fillL (fun i => some (i * k, k)) (repV zs (len * k)) l with
        | some rs => some (.val (.slice (some ⟨n, 0, none⟩) len len) (Tr.set 24 t n (some (.cells rs e 0))) (n + 1))
        | none => none
      else none
    | _, _, _ => none
  | _ => none

theorem evBuildSlice_ok {ty : TypeId} {len : Nat} {ps : Array (Nat × Operand)} {y : Nx} (H : Holds σ t.mem w) (hr : r.ok σ ρ) (ho : o.op = .buildSlice ty len ps) (h : evBuildSlice P r t n ty len ps.toList = some y) :
    OpOK P o ρ w σ t.mem n y := by
  have hps : (ps.map fun (x : Nat × Operand) => (x.1, ρ x.2)).toList = ps.toList.map fun (x : Nat × Operand) => (x.1, ρ x.2) := by simp
  unfold evBuildSlice at h
  split at h
  · rename_i e hu
    split at h
    · rename_i k zs l hk hzs hl
      cases hc : (Nat.ble (len * k) 16777216 && Nat.beq zs.length k && Nat.blt n top) with
      | false => rw [hc] at h; cases h
      | true =>
        rw [hc, cond_true] at h
        split at h
        · rename_i rs hrs
          cases h
          simp only [Bool.and_eq_true] at hc
          have h1 := Nat.le_of_ble_eq_true hc.1.1
          have h2 := Nat.eq_of_beq_eq_true hc.1.2
          have h3 : n < top := Nat.le_of_ble_eq_true hc.2
          obtain ⟨z, hz, hzc, hzl⟩ := zeroV_ok (w := w) (σ := σ) hzs
          obtain ⟨g1, g2⟩ := partsV_ok hr _ _ hl
          have hpos : 0 < len * k → 0 < zs.length := fun hp => by
            rw [h2]
            exact Nat.pos_of_mul_pos_left hp
          obtain ⟨rs', hrr, hf⟩ := fillL_ok _ _ _ _ _ _ (repV_ok hzl (len * k) hpos) g1 g2 hrs
          have hza : z.cells = zs.toArray := by rw [← hzc]
          intro hfr
          have hn0 := fresh_at hfr (Nat.lt_succ_self n)
          refine ⟨_, _, _, by rw [Tr.mem_set h3]; exact Ext.row H hn0 hrr e, .sl n 0 len len len _ Sg.put_same (Nat.le_refl _) (.inl ⟨rfl, rfl⟩), .inl ?_⟩
          have hrun : (Instr.buildSlice ty len (ps.map fun (x : Nat × Operand) => (x.1, ρ x.2))).run P w = .ok (.slice (some ⟨w.heap.size, 0, none⟩) len len) (w.alloc (.cells rs'.toArray e)) := by
            have hbig : ¬ (len * k > 2 ^ 24) := by omega
            simp only [Instr.buildSlice, Sem.run_bind, run_underlying hu, Result.andThen_ok, run_sizeV hk, Sem.run_ite, if_neg hbig, Sem.run_pure]
            by_cases h0 : len * k = 0
            · rw [if_pos h0]
              have hrep : ((Array.range (len * k)).map (fun x => (#[] : Array Value)[x % (#[] : Array Value).size]!)) = (repV zs (len * k)).toArray := by
                rw [h0]; simp [repV]
              rw [hrep, hps, hf]
              simp [newRow, Sem.run_bind]
            · rw [if_neg h0]
              simp only [Sem.run_bind, hz, Result.andThen_ok, Sem.run_pure, hza]
              rw [repV_eq hpos, hps, hf]
              simp [newRow, Sem.run_bind]
          have hex : execOp ρ o = (do pure (.value (← Instr.buildSlice ty len (ps.map fun (x : Nat × Operand) => (x.1, ρ x.2))))) := by
            unfold execOp; rw [ho]
          rw [hex, Sem.run_bind, hrun]
          simp only [Result.andThen_ok, Sem.run_pure, Nat.zero_add]
        · cases h
    · cases h
  · cases h

end
end Ev
end Go.Proofs.YtgidmgkebkodoaaGreatDoor
