/- A run on closed data, reckoned by the kernel, 3: operations that reckon, load and store. -/
import Derived.Test.YtgidmgkebkodoaaGreatDoorEv2
import Derived.Orders
import Derived.Deep.MidRow
import Derived.ChangeKeysEq
set_option linter.unusedSimpArgs false
set_option linter.unusedVariables false
set_option linter.unusedSectionVars false
namespace Go.Proofs.YtgidmgkebkodoaaGreatDoor
open Go.RowKit
namespace Ev
variable [Vars]

/-- What only reckons. -/
def runPure (P : Program) {α : Type} : Sem α → Option α
  | .pure a => some a
  | .program k => runPure P (k P)
  | _ => none

theorem runPure_run {P : Program} {α : Type} : ∀ (s : Sem α) (a : α) (w : World), runPure P s = some a → s.run P w = .ok a w
  | .pure b, a, w, h => by simp only [runPure, Option.some.injEq] at h; subst h; rfl
  | .program k, a, w, h => by simp only [runPure] at h; exact runPure_run (k P) a w h
  | .load .., _, _, h => by simp [runPure] at h
  | .store .., _, _, h => by simp [runPure] at h
  | .new .., _, _, h => by simp [runPure] at h
  | .shape .., _, _, h => by simp [runPure] at h
  | .freeze .., _, _, h => by simp [runPure] at h
  | .frozen .., _, _, h => by simp [runPure] at h
  | .getObj .., _, _, h => by simp [runPure] at h
  | .setObj .., _, _, h => by simp [runPure] at h
  | .choose .., _, _, h => by simp [runPure] at h
  | .sys .., _, _, h => by simp [runPure] at h
  | .mark .., _, _, h => by simp [runPure] at h
  | .halt .., _, _, h => by simp [runPure] at h

theorem plain_eq {σ : Sg} : ∀ (f : Nat) (v v' : Value), plain f v = true → VR σ v v' → v' = v := by
  intro f
  induction f with
  | zero =>
    intro v v' h hr
    cases hr <;> first | rfl | (simp [plain] at h; done) | skip
    case func g cs cs' hs hv =>
      simp [plain] at h
      subst h
      have : cs' = #[] := by simpa using hs.symm
      subst this; rfl
  | succ f ih =>
    intro v v' h hr
    cases hr <;> first | rfl | (simp [plain] at h; done) | skip
    case func g cs cs' hs hv =>
      simp [plain] at h
      subst h
      have : cs' = #[] := by simpa using hs.symm
      subst this; rfl
    case iface t v v' hv => rw [ih _ _ (by simpa [plain] using h) hv]
    case agg cs cs' hs hv =>
      simp only [plain, List.all_eq_true] at h
      congr 1
      refine Array.ext hs.symm fun i a b => ih _ _ (h _ (by simp)) (hv i b a)
    case tuple cs cs' hs hv =>
      simp only [plain, List.all_eq_true] at h
      congr 1
      refine Array.ext hs.symm fun i a b => ih _ _ (h _ (by simp)) (hv i b a)

/-- What an operation comes to. -/
inductive Nx where
  | val (v : Value) (t : Tr) (n : Nat)
  | call (f : FuncId) (args : List Value)

def OpOK (P : Program) (o : Oper) (ρ : Operand → Value) (w : World) (σ : Sg) (h : Mem) (n : Nat) : Nx → Prop
  | .val v t n' => Fresh σ n n' → ∃ σ' w' v', Ext h n n' σ σ' t.mem w w' ∧ VR σ' v v' ∧ ((execOp ρ o).run P w = .ok (.value v') w' ∨ ((execOp ρ o).run P w = .ok .skip w' ∧ v' = undef))
  | .call f args => ∃ args', LR σ args args' ∧ (execOp ρ o).run P w = .ok (.enter f args'.toArray) w

section
variable {P : Program} {o : Oper} {ρ : Operand → Value} {w : World} {σ : Sg} {t : Tr} {n : Nat}
theorem OpOK.same {v v' : Value} (H : Holds σ t.mem w) (hv : VR σ v v') (hr : (execOp ρ o).run P w = .ok (.value v') w) : OpOK P o ρ w σ t.mem n (.val v t n) :=
  fun _ => ⟨σ, w, v', Ext.refl H, hv, .inl hr⟩
end

abbrev Env := Operand → Option Value
def Env.ok (r : Env) (σ : Sg) (ρ : Operand → Value) : Prop := ∀ x v, r x = some v → VR σ v (ρ x)

/-- By the machine's own reckoning, where no operand has an address. -/
def evPlain (P : Program) (r : Env) (o : Oper) : Option Value :=
  bif o.op.operands.toList.all fun x => match r x with | some v => plain 4 v | none => false then
    match o.op with
    | .select .. => none
    | _ => match runPure P (execOp (fun x => (r x).getD undef) o) with
      | some (.value v) => bif plain 4 v then some v else none
      | _ => none
  else none

theorem evPlain_ok {P : Program} {r : Env} {o : Oper} {ρ : Operand → Value} {σ : Sg} {v : Value} (hr : r.ok σ ρ) (h : evPlain P r o = some v) (w : World) :
    VR σ v v ∧ (execOp ρ o).run P w = .ok (.value v) w := by
  unfold evPlain at h
  cases hall : (o.op.operands.toList.all fun x => match r x with | some v => plain 4 v | none => false) with
  | false => rw [hall] at h; simp at h
  | true =>
    rw [hall, cond_true] at h
    have hns : ∀ cs b, o.op ≠ .select cs b := by
      intro cs b hc
      rw [hc] at h; simp at h
    have hx : ∀ x ∈ o.op.operands, ρ x = (r x).getD undef := by
      intro x hx
      have h1 := List.all_eq_true.1 hall x (by simpa using hx)
      cases hrx : r x with
      | none => simp [hrx] at h1
      | some u =>
        simp only [hrx] at h1
        exact plain_eq 4 u _ h1 (hr x u hrx)
    have hc : execOp ρ o = execOp (fun x => (r x).getD undef) o := execOp_congr o hns hx
    have h' : (match runPure P (execOp (fun x => (r x).getD undef) o) with
      | some (.value v) => bif plain 4 v then some v else none
      | _ => none) = some v := by
      revert h
      cases o.op <;> first | exact id | (intro h; cases h)
    cases hp : runPure P (execOp (fun x => (r x).getD undef) o) with
    | none => rw [hp] at h'; cases h'
    | some x =>
      rw [hp] at h'
      cases x <;> first | (simp at h'; done) | skip
      case value u =>
        simp only at h'
        cases hpl : plain 4 u with
        | false => rw [hpl] at h'; simp at h'
        | true =>
          rw [hpl] at h'
          simp only [cond_true, Option.some.injEq] at h'
          subst h'
          exact ⟨plain_rel 4 u hpl, by rw [hc]; exact runPure_run _ _ w hp⟩

/-- An integer, and all else that has no address, a variable among them. -/
def isVar : Value → Bool
  | .complex .f64 _ n => Nat.beq n 1 || Nat.beq n 2
  | _ => false
def scal (v : Value) : Bool := plain 4 v || isVar v
def concV (v : Value) : Value := conc Vars.val v
theorem scal_rel {σ : Sg} {v : Value} (h : scal v = true) : VR σ v (concV v) := by
  simp only [scal, Bool.or_eq_true] at h
  rcases h with h | h
  · have he : concV v = v := by
      unfold concV conc
      split
      · simp [plain] at h
      · simp [plain] at h
      · rfl
    rw [he]
    exact plain_rel 4 v h
  · unfold isVar at h
    split at h
    · rename_i k n
      simp only [Bool.or_eq_true] at h
      rcases h with h | h
      · have := Nat.eq_of_beq_eq_true h
        subst this
        show VR σ (.complex .f64 k 1) (Vars.val k)
        rcases Vars.one k with ⟨j, n, h⟩ | ⟨s, h⟩ | ⟨a, h⟩ | ⟨a, n, c, h⟩
        · rw [h]; exact .varI _ _ _ h
        · rw [h]; exact .varS _ _ h
        · rw [h]; exact .varP _ _ h
        · rw [h]; exact .varL _ _ _ _ h
      · have := Nat.eq_of_beq_eq_true h
        subst this
        exact .glob k
    · cases h
theorem scal_eq {σ : Sg} {v v' : Value} (h : scal v = true) (hr : VR σ v v') : v' = concV v := by
  simp only [scal, Bool.or_eq_true] at h
  rcases h with h | h
  · have he : concV v = v := by
      unfold concV conc
      split
      · simp [plain] at h
      · simp [plain] at h
      · rfl
    rw [he]
    exact plain_eq 4 v v' h hr
  · unfold isVar at h
    split at h
    · rename_i k n
      simp only [Bool.or_eq_true] at h
      rcases h with h | h
      · have := Nat.eq_of_beq_eq_true h
        subst this
        cases hr with
        | varI k j n h => exact h.symm
        | varS k s h => exact h.symm
        | varP k a h => exact h.symm
        | varL k a n c h => exact h.symm
      · have := Nat.eq_of_beq_eq_true h
        subst this
        cases hr
        rfl
    · cases h
theorem scals_eq {σ : Sg} : ∀ {vs vs' : List Value}, vs.all scal = true → LR σ vs vs' → vs' = vs.map concV
  | [], [], _, _ => rfl
  | [], _ :: _, _, h => by have := h.1; simp at this
  | _ :: _, [], _, h => by have := h.1; simp at this
  | v :: vs, v' :: vs', hs, h => by
    simp only [List.all_cons, Bool.and_eq_true] at hs
    rw [List.map_cons, scal_eq hs.1 h.head, scals_eq hs.2 h.tail]

/-- Is a variable of this type a row of cells? -/
def rowB (P : Program) (t : TypeId) : Option Bool :=
  match P.underlying t with
  | some (.struct _) | some (.array _ _) => some true
  | some _ => some false
  | none => none
def sizeV (P : Program) (t : TypeId) : Option Nat := (P.info? t).map (·.size)

section
variable {P : Program} {t : TypeId} {w : World}
theorem run_isAgg {b : Bool} (h : rowB P t = some b) : (isAgg t).run P w = .ok b w := by
  unfold rowB at h
  cases hu : P.underlying t with
  | none => rw [hu] at h; cases h
  | some d =>
    rw [hu] at h
    unfold isAgg
    rw [Sem.run_bind, run_underlying hu w]
    cases d <;> simp_all
theorem run_sizeV {k : Nat} (h : sizeV P t = some k) : (sizeOf t).run P w = .ok k w := by
  unfold sizeV at h
  cases hi : P.info? t with
  | none => rw [hi] at h; cases h
  | some i => rw [hi] at h; simp at h; subst h; simp [sizeOf, typeInfo, hi]
end

/-- A part of a row of cells. -/
def partV (P : Program) (t : TypeId) (cs : List Value) (off : Nat) : Option Value :=
  match rowB P t with
  | some true => match sizeV P t with
    | some k => some (.agg ((cs.drop off).take k).toArray)
    | none => none
  | some false => cs[off]?
  | none => none

theorem partV_ok {P : Program} {t : TypeId} {σ : Sg} {cs cs' : List Value} {off : Nat} {v : Value} (hl : LR σ cs cs') (h : partV P t cs off = some v) (w : World) :
    ∃ v', VR σ v v' ∧ (part t cs'.toArray off).run P w = .ok v' w := by
  unfold partV at h
  cases hr : rowB P t with
  | none => rw [hr] at h; cases h
  | some b =>
    rw [hr] at h
    cases b with
    | true =>
      simp only at h
      cases hs : sizeV P t with
      | none => rw [hs] at h; cases h
      | some k =>
        rw [hs] at h
        simp only [Option.some.injEq] at h
        subst h
        refine ⟨.agg ((cs'.drop off).take k).toArray, .mkAgg ((hl.drop off).take k), ?_⟩
        simp only [part, Sem.run_bind, run_isAgg hr, Result.andThen_ok, if_true, run_sizeV hs, Sem.run_pure]
        congr 3
        simp [Nat.add_sub_cancel_left]
    | false =>
      obtain ⟨v', hv', hrel⟩ := hl.get? h
      refine ⟨v', hrel, ?_⟩
      simp [part, Sem.run_bind, run_isAgg hr, hv']

/-! loads -/
theorem Holds.cells {σ : Sg} {h : Mem} {w : World} (H : Holds σ h w) {b : Nat} {c : List Value} {e : TypeId} {es : Nat} (hb : h b = some (.cells c e es)) :
    ∃ p arr fz, σ b = some p ∧ w.heap[p.blk]? = some (.cells arr e fz) ∧ arr.size = p.base + p.avail ∧ c.length ≤ p.avail ∧ p.es = es ∧
      (∀ (i : Nat) (x : Value), c[i]? = some x → ∃ y, arr[p.base + i]? = some y ∧ VR σ x y) ∧ (∀ o, o ≤ arr.size → ¬ (fz.1 ≤ o ∧ o < fz.2)) := by
  obtain ⟨p, x, h1, h2, h3⟩ := H.lies b _ hb
  cases h3 with
  | cells c e es p arr fz hs hl he hc hf => exact ⟨p, arr, fz, h1, h2, hs, hl, he, hc, hf⟩

def loadV (P : Program) (t : Tr) (ty : TypeId) : Value → Option Value
  | .pointer (some ⟨b, o, none⟩) =>
    match t.mem b with
    | some (.cells c _ _) =>
      match rowB P ty with
      | some true => match sizeV P ty with
        | some k => bif Nat.ble (o + k) c.length then some (.agg ((c.drop o).take k).toArray) else none
        | none => none
      | some false => c[o]?
      | none => none
    | _ => none
  | _ => none

theorem world_cell {w : World} {b : Nat} {arr : Array Value} {e : TypeId} {fz : Nat × Nat} (h : w.heap[b]? = some (.cells arr e fz)) (o : Nat) : w.cell? ⟨b, o, none⟩ = arr[o]? := by
  simp [World.cell?, h]
theorem world_frozen {w : World} {b : Nat} {arr : Array Value} {e : TypeId} {fz : Nat × Nat} (h : w.heap[b]? = some (.cells arr e fz)) (hf : ∀ o, o ≤ arr.size → ¬ (fz.1 ≤ o ∧ o < fz.2)) {o : Nat} (ho : o ≤ arr.size) :
    w.frozen? ⟨b, o, none⟩ = false := by
  have := hf o ho
  obtain ⟨lo, hi⟩ := fz
  simp only [World.frozen?, h]
  simp only [Bool.and_eq_false_iff, decide_eq_false_iff_not]
  by_cases h1 : lo ≤ o
  · exact .inr fun h2 => this ⟨h1, h2⟩
  · exact .inl h1

theorem rangeLR {σ : Sg} {h : Mem} {w : World} (H : Holds σ h w) {b : Nat} {c : List Value} {e : TypeId} {es : Nat} (hb : h b = some (.cells c e es)) {p : Pl} (hp : σ b = some p) {o k : Nat} (hk : o + k ≤ c.length) :
    ∃ ys : List Value, LR σ ((c.drop o).take k) ys ∧ ys.length = k ∧ w.rangeAt p.blk (p.base + o) ys := by
  obtain ⟨q, arr, fz, h1, h2, h3, h4, h5, h6, h7⟩ := H.cells hb
  rw [hp] at h1; cases h1
  have hl : ((arr.toList.drop (p.base + o)).take k).length = k := by simp; omega
  refine ⟨(arr.toList.drop (p.base + o)).take k, LR.of_get? (by rw [hl]; simp; omega) fun i x hx => ?_, hl, fun j v hv => ?_⟩
  · rw [List.getElem?_take] at hx ⊢
    split at hx
    · rename_i hi
      rw [List.getElem?_drop] at hx
      obtain ⟨y, hy, hr⟩ := h6 _ _ hx
      refine ⟨y, ?_, hr⟩
      rw [if_pos hi, List.getElem?_drop, Array.getElem?_toList, Nat.add_assoc]
      exact hy
    · cases hx
  · rw [world_cell h2]
    rw [List.getElem?_take] at hv
    split at hv
    · rw [List.getElem?_drop, Array.getElem?_toList] at hv
      exact hv
    · cases hv

theorem VR.addr {σ : Sg} {b o : Nat} {v' : Value} (h : VR σ (.pointer (some ⟨b, o, none⟩)) v') : ∃ p, σ b = some p ∧ v' = .pointer (some ⟨p.blk, p.base + o, none⟩) := by
  cases h with
  | ptr b o p h => exact ⟨p, h, rfl⟩

theorem loadV_ok {P : Program} {t : Tr} {ty : TypeId} {a a' v : Value} {σ : Sg} {w : World} (H : Holds σ t.mem w) (ha : VR σ a a') (h : loadV P t ty a = some v) :
    ∃ v', VR σ v v' ∧ (Instr.loadAt ty a').run P w = .ok v' w := by
  unfold loadV at h
  split at h
  · rename_i b o
    split at h
    · rename_i c e es hb
      obtain ⟨p, hp, rfl⟩ := ha.addr
      split at h
      · rename_i hr
        split at h
        · rename_i k hs
          cases hle : Nat.ble (o + k) c.length with
          | false => rw [hle] at h; cases h
          | true =>
            rw [hle, cond_true, Option.some.injEq] at h
            subst h
            obtain ⟨ys, h1, h2, h3⟩ := rangeLR H hb hp (Nat.le_of_ble_eq_true hle)
            refine ⟨_, .mkAgg h1, ?_⟩
            have hu : ∃ d, P.underlying ty = some d ∧ d.isRow = true := by
              unfold rowB at hr
              cases hu : P.underlying ty with
              | none => rw [hu] at hr; cases hr
              | some d => rw [hu] at hr; cases d <;> first | exact ⟨_, rfl, rfl⟩ | (simp at hr)
            obtain ⟨d, hu, hd⟩ := hu
            exact run_loadAt_mid w p.blk (p.base + o) ty ys d h3 hu hd (by rw [h2]; exact hs)
        · cases h
      · rename_i hr
        obtain ⟨q, arr, fz, h1, h2, h3, h4, h5, h6, h7⟩ := H.cells hb
        rw [hp] at h1; cases h1
        obtain ⟨y, hy, hrel⟩ := h6 _ _ h
        refine ⟨y, hrel, ?_⟩
        simp [Instr.loadAt, Instr.sureAddr, loadVar, Sem.run_bind, run_isAgg hr, world_cell h2, hy]
      · cases h
    · cases h
  · cases h

/-! stores -/
def oneCells (l : List Value) : Bool := l.all (·.oneCell')

def splice (c : List Value) (o : Nat) (vs : List Value) : List Value := c.take o ++ (vs ++ c.drop (o + vs.length))

theorem splice_get {c vs : List Value} {o : Nat} (h : o ≤ c.length) (i : Nat) : (splice c o vs)[i]? = if o ≤ i ∧ i < o + vs.length then vs[i - o]? else c[i]? := by
  unfold splice
  have hl : (c.take o).length = o := by simp; omega
  rcases Nat.lt_or_ge i o with hi | hi
  · rw [List.getElem?_append_left (by omega), if_neg (by omega), List.getElem?_take, if_pos hi]
  · rw [List.getElem?_append_right (by omega), hl]
    rcases Nat.lt_or_ge i (o + vs.length) with hj | hj
    · rw [if_pos ⟨hi, hj⟩, List.getElem?_append_left (by omega)]
    · rw [if_neg (by omega), List.getElem?_append_right (by omega), List.getElem?_drop]
      congr 1
      omega
theorem splice_length {c vs : List Value} {o : Nat} (h : o + vs.length ≤ c.length) : (splice c o vs).length = c.length := by
  unfold splice; simp; omega
theorem splice_le {c vs : List Value} {o m : Nat} (h : o ≤ c.length) (h1 : c.length ≤ m) (h2 : o + vs.length ≤ m) : (splice c o vs).length ≤ m := by
  unfold splice; simp; omega

theorem setCells_heap (b : Nat) (e : TypeId) (fz : Nat × Nat) : ∀ (vs : List Value) (o : Nat) (w : World) (arr : Array Value), w.heap[b]? = some (.cells arr e fz) → o + vs.length ≤ arr.size →
    ∃ arr', (w.setCells b o vs).heap[b]? = some (.cells arr' e fz) ∧ arr'.size = arr.size ∧ ∀ i : Nat, arr'[i]? = if o ≤ i ∧ i < o + vs.length then vs[i - o]? else arr[i]?
  | [], o, w, arr, h, _ => ⟨arr, h, rfl, fun i => by rw [if_neg (by simp)]⟩
  | v :: r, o, w, arr, h, hl => by
    have h1 : (w.setCell ⟨b, o, none⟩ v).heap[b]? = some (.cells (arr.setIfInBounds o v) e fz) := by
      simp [World.setCell, Array.getElem?_modify, h]
    obtain ⟨arr', h2, h3, h4⟩ := setCells_heap b e fz r (o + 1) _ _ h1 (by simp at hl ⊢; omega)
    refine ⟨arr', h2, by simpa using h3, fun i => ?_⟩
    rw [h4 i]
    simp only [List.length_cons] at hl ⊢
    by_cases hc : o + 1 ≤ i ∧ i < o + 1 + r.length
    · rw [if_pos hc, if_pos (by omega)]
      obtain ⟨k, rfl⟩ : ∃ k, i = o + 1 + k := ⟨i - (o + 1), by omega⟩
      rw [show o + 1 + k - (o + 1) = k by omega, show o + 1 + k - o = k + 1 by omega]
      rfl
    · rw [if_neg hc]
      by_cases hio : i = o
      · subst hio
        rw [if_pos (by omega), Nat.sub_self]
        simp [show i < arr.size by omega]
      · rw [if_neg (by omega), Array.getElem?_setIfInBounds_ne (by omega)]

theorem setCells_rest (b : Nat) : ∀ (vs : List Value) (o : Nat) (w : World), (w.setCells b o vs).os = w.os ∧ (w.setCells b o vs).tape = w.tape ∧ (w.setCells b o vs).output = w.output ∧ (w.setCells b o vs).heap.size = w.heap.size ∧ ∀ k, k ≠ b → (w.setCells b o vs).heap[k]? = w.heap[k]?
  | [], o, w => ⟨rfl, rfl, rfl, rfl, fun _ _ => rfl⟩
  | v :: r, o, w => by
    obtain ⟨h1, h2, h3, h4, h5⟩ := setCells_rest b r (o + 1) (w.setCell ⟨b, o, none⟩ v)
    refine ⟨h1, h2, h3, by simpa [World.setCells] using h4, fun k hk => ?_⟩
    rw [World.setCells, h5 k hk]
    exact Below.heap_setCell w ⟨b, o, none⟩ v k hk

/-- Cells are written: what becomes of both memories. -/
theorem Ext.cells {σ : Sg} {h : Mem} {w : World} {n : Nat} (H : Holds σ h w) {b : Nat} {c : List Value} {e : TypeId} {es : Nat} (hb : h b = some (.cells c e es)) {p : Pl} (hp : σ b = some p) {o : Nat} {vs vs' : List Value}
    (hk : o ≤ c.length) (hk2 : o + vs.length ≤ c.length ∨ o + vs.length ≤ p.avail) (hv : LR σ vs vs') :
    Ext h n n σ σ (fun j => if j = b then some (.cells (splice c o vs) e es) else h j) w (w.setCells p.blk (p.base + o) vs') := by
  obtain ⟨q, arr, fz, h1, h2, h3, h4, h5, h6, h7⟩ := H.cells hb
  rw [hp] at h1; cases h1
  have hlen := hv.1
  have hk3 : o + vs.length ≤ p.avail := by omega
  obtain ⟨arr', g1, g2, g3⟩ := setCells_heap p.blk e fz vs' (p.base + o) w arr h2 (by omega)
  obtain ⟨r1, r2, r3, r4, r5⟩ := setCells_rest p.blk vs' (p.base + o) w
  refine Ext.write H hb hp r1 r2 r3 r4 r5 g1 (.cells _ _ _ _ _ _ (by omega) (splice_le hk h4 hk3) h5 (fun i x hx => ?_) (fun k hk => h7 k (by omega)))
  rw [splice_get hk] at hx
  by_cases hc : o ≤ i ∧ i < o + vs.length
  · rw [if_pos hc] at hx
    obtain ⟨y, hy, hr⟩ := hv.get? hx
    refine ⟨y, ?_, hr⟩
    rw [g3, if_pos (by omega), ← hy]
    congr 1
    omega
  · rw [if_neg hc] at hx
    obtain ⟨y, hy, hr⟩ := h6 _ _ hx
    exact ⟨y, by rw [g3, if_neg (by omega)]; exact hy, hr⟩

theorem LR.one {σ : Sg} {xs ys : List Value} (h : LR σ xs ys) (h1 : oneCells xs = true) : ∀ v ∈ ys, v.oneCell' = true := by
  intro v hv
  obtain ⟨i, hi, rfl⟩ := List.getElem_of_mem hv
  have hx := h.2 i (h.1 ▸ hi) hi
  have h2 := List.all_eq_true.1 h1 _ (List.getElem_mem (h.1 ▸ hi : i < xs.length))
  generalize xs[i]'(h.1 ▸ hi) = x at hx h2
  generalize ys[i] = y at hx ⊢
  cases hx <;> first | rfl | (simp [Value.oneCell'] at h2)

theorem run_storeRange {P : Program} {σ : Sg} {h : Mem} {w : World} (H : Holds σ h w) {b : Nat} {c : List Value} {e : TypeId} {es : Nat} (hb : h b = some (.cells c e es)) {p : Pl} (hp : σ b = some p) {o : Nat} {vs' : List Value}
    (hk : o + vs'.length ≤ c.length ∨ o + vs'.length ≤ p.avail) (h1 : ∀ v ∈ vs', v.oneCell' = true) :
    (storeCells ⟨p.blk, p.base + o, none⟩ vs').run P w = .ok () (w.setCells p.blk (p.base + o) vs') := by
  obtain ⟨q, arr, fz, g1, g2, g3, g4, g5, g6, g7⟩ := H.cells hb
  rw [hp] at g1; cases g1
  have := run_storeCells_cells (P := P) p.blk (p.base + o) vs' 0 w (fun j hj => by
      rw [world_cell g2]; simp; omega) (fun j hj => world_frozen g2 g7 (by omega)) h1
  simpa using this

def storeV (P : Program) (t : Tr) (ty : TypeId) (a v : Value) : Option Tr :=
  match a with
  | .pointer (some ⟨b, o, none⟩) =>
    match t.mem b with
    | some (.cells c e es) =>
      let vs := v.cells.toList
      bif sizeV P ty == some vs.length && Nat.ble (o + vs.length) c.length && oneCells vs && Nat.blt b top then some (Tr.set 24 t b (some (.cells (splice c o vs) e es))) else none
    | _ => none
  | _ => none

theorem storeV_ok {P : Program} {t t' : Tr} {ty : TypeId} {a a' v v' : Value} {σ : Sg} {w : World} {n : Nat} (H : Holds σ t.mem w) (ha : VR σ a a') (hv : VR σ v v') (h : storeV P t ty a v = some t') :
    ∃ w', Ext t.mem n n σ σ t'.mem w w' ∧ (Instr.storeAt ty a' v').run P w = .ok () w' := by
  unfold storeV at h
  split at h
  · rename_i b o
    split at h
    · rename_i c e es hb
      obtain ⟨p, hp, rfl⟩ := ha.addr
      dsimp only at h
      cases hcond : (sizeV P ty == some v.cells.toList.length && Nat.ble (o + v.cells.toList.length) c.length && oneCells v.cells.toList && Nat.blt b top) with
      | false => rw [hcond] at h; cases h
      | true =>
        rw [hcond, cond_true, Option.some.injEq] at h
        subst h
        simp only [Bool.and_eq_true, beq_iff_eq] at hcond
        obtain ⟨⟨⟨hs, hle⟩, h1⟩, hlt⟩ := hcond
        have hle := Nat.le_of_ble_eq_true hle
        have hc := hv.cells
        have hcl : v'.cells.toList.length = v.cells.toList.length := hc.1.symm
        refine ⟨_, by rw [Tr.mem_set (Nat.lt_of_lt_of_le (Nat.le_of_ble_eq_true hlt) (Nat.le_refl _))]; exact Ext.cells H hb hp (by omega) (.inl hle) hc, ?_⟩
        have hst := run_storeRange (P := P) H hb hp (o := o) (vs' := v'.cells.toList) (.inl (by omega)) (hc.one h1)
        have hsz : v'.cells.size = v.cells.size := by simpa using hcl
        simp only [Array.length_toList] at hs
        simp [Instr.storeAt, Instr.sureAddr, storeVar, Sem.run_bind, run_sizeV hs, hsz, hst]
    · cases h
  · cases h

end Ev
end Go.Proofs.YtgidmgkebkodoaaGreatDoor
