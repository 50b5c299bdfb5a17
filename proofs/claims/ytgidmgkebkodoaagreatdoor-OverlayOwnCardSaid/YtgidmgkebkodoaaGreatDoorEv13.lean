/- A run on closed data, reckoned by the kernel, 13: a frame is left; a range over a function; a frame's whole run. -/
import Derived.Test.YtgidmgkebkodoaaGreatDoorEv12
set_option linter.unusedSimpArgs false
set_option linter.unusedVariables false
set_option linter.unusedSectionVars false
namespace Go.Proofs.YtgidmgkebkodoaaGreatDoor
open Go.RowKit
namespace Ev
variable [Vars]

section
variable {P : Program} {F : Book} {σ σ' : Sg} {fr : Frame} {fid : FuncId} {rnd : Option Nat} {ts : List Value} {todo k : List Item} {dfs : List Nat} {w w' : World} {cs : List Frame} {t : Tr} {n : Nat}

theorem st_take {b : Nat} {args : Array Value} {ds calls : List Deferred} (hm : fr.mode = .returning) (hd : fr.defers = { target := .collected b, args := args } :: ds) (hr : (Instr.takeDeferred b).run P w = .ok calls w') :
    step P (lone fr cs w) = .next (lone { fr with defers := calls ++ ds } cs w') :=
  step_lone_go (by simp [stepG, unwind, hm, hd, hr])

theorem take_ok : ∀ (dfs : List Nat) (t t' : Tr) (w : World) (fr : Frame), takeV dfs t = some t' → fr.mode = .returning → DR σ dfs fr.defers → Holds σ t.mem w →
    ∃ w', Ext t.mem n n σ σ t'.mem w w' ∧ Steps P (lone fr cs w) (lone { fr with defers := [] } cs w')
  | [], t, t', w, fr, h, hm, hd, H => by
    cases h
    generalize hg : fr.defers = ds at hd
    cases hd
    refine ⟨w, Ext.refl H, ?_⟩
    have : ({ fr with defers := [] } : Frame) = fr := by rw [← hg]
    rw [this]
    exact .refl P _
  | r :: rs, t, t', w, fr, h, hm, hd, H => by
    simp only [takeV] at h
    split at h
    case h_2 => cases h
    rename_i ht
    cases hb : Nat.blt r top with
    | false => rw [hb] at h; cases h
    | true =>
      rw [hb, cond_true] at h
      have hlt : r < top := Nat.le_of_ble_eq_true hb
      generalize hg : fr.defers = ds at hd
      cases hd with
      | cons r p rs ds hp hs =>
      obtain ⟨q, x, q1, q2, q3⟩ := H.lies r _ ht
      rw [hp] at q1; cases q1
      cases q3
      have e1 := Ext.setObj (n := n) H ht hp (.gone p)
      have hrun : (Instr.takeDeferred p.blk).run P w = .ok [] { w with heap := w.heap.setIfInBounds p.blk (.deferred none) } := by
        simp only [Instr.takeDeferred, Sem.run_bind, getObj_run (P := P) q2 (by intro c e f h; cases h), Result.andThen_ok, setObj_run (P := P) q2 (by intro c e f h; cases h), Sem.run_pure]
      have hs1 := st_take (P := P) (cs := cs) hm hg hrun
      obtain ⟨w', f1, f2⟩ := take_ok rs _ t' _ { fr with defers := [] ++ ds } h hm hs (by rw [Tr.mem_set hlt]; exact e1.holds)
      rw [Tr.mem_set hlt] at f1
      exact ⟨w', e1.trans f1, .head hs1 f2⟩

theorem getD_rel (hts : LR σ ts fr.tmps.toList) (i : Nat) : VR σ (ts.getD i undef) (fr.tmps.getD i undef) := by
  cases hi : ts[i]? with
  | none =>
    have : fr.tmps[i]? = none := by
      rw [← Array.getElem?_toList, List.getElem?_eq_none_iff] at *
      rw [← hts.1]; exact hi
    rw [List.getD_eq_getElem?_getD, hi, Array.getD_eq_getD_getElem?, this]
    exact undef_rel
  | some v =>
    obtain ⟨y, hy, hr⟩ := hts.get? hi
    rw [Array.getElem?_toList] at hy
    rw [List.getD_eq_getElem?_getD, hi, Array.getD_eq_getD_getElem?, hy]
    exact hr

theorem addr_of_load {a a' v : Value} {ty : TypeId} (ha : VR σ a a') (h : loadV P t ty a = some v) : ∃ x, a' = .pointer (some x) := by
  unfold loadV at h
  split at h
  · obtain ⟨p, _, rfl⟩ := ha.addr; exact ⟨_, rfl⟩
  · cases h

def resOne (tmps : Array Value) : ResultVar → Sem Value
  | .tmp i => pure (tmps.getD i undef)
  | .cell a ty => do loadVar ty (← asAddr (tmps.getD a undef))
theorem results_eq (fn : Func) (tmps : Array Value) : results fn tmps = (do
    let vs ← fn.results.mapM (resOne tmps)
    pure (if h : vs.size = 1 then vs[0] else .tuple vs)) := by
  unfold results
  congr 1

theorem resV_ok (H : Holds σ t.mem w) (hts : LR σ ts fr.tmps.toList) : ∀ (rs : List ResultVar) (vs : List Value), resV P t ts rs = some vs →
    ∃ vs', LR σ vs vs' ∧ (rs.mapM (resOne fr.tmps)).run P w = .ok vs' w
  | [], vs, h => by cases h; exact ⟨[], LR.nil, rfl⟩
  | .tmp i :: rs, vs, h => by
    simp only [resV] at h
    split at h
    case h_2 => cases h
    rename_i us hus
    cases h
    obtain ⟨vs', h1, h2⟩ := resV_ok H hts rs us hus
    exact ⟨_, LR.cons (getD_rel hts i) h1, by simp only [List.mapM_cons, resOne, Sem.run_bind, Sem.run_pure, Result.andThen_ok, h2]⟩
  | .cell a ty :: rs, vs, h => by
    simp only [resV] at h
    split at h
    case h_2 => cases h
    rename_i u us hu hus
    cases h
    obtain ⟨vs', h1, h2⟩ := resV_ok H hts rs us hus
    have hga := getD_rel (fr := fr) hts a
    obtain ⟨u', g1, g2⟩ := loadV_ok H hga hu
    obtain ⟨x, hx⟩ := addr_of_load hga hu
    rw [hx] at g2
    simp only [Instr.loadAt, Instr.sureAddr, Sem.run_bind, Sem.run_pure, Result.andThen_ok] at g2
    have hasa : (asAddr (fr.tmps.getD a undef)).run P w = .ok x w := by rw [hx]; rfl
    exact ⟨_, LR.cons g1 h1, by simp only [List.mapM_cons, resOne, Sem.run_bind, Sem.run_pure, Result.andThen_ok, hasa, g2, h2]⟩

theorem oneV_rel {vs vs' : List Value} (h : LR σ vs vs') : VR σ (oneV vs) (if h : vs'.toArray.size = 1 then vs'.toArray[0] else .tuple vs'.toArray) := by
  match vs, vs', h with
  | [], [], h => simpa [oneV] using VR.mkTuple h
  | [v], [v'], h => simpa [oneV] using h.head
  | a :: b :: r, a' :: b' :: r', h => simpa [oneV] using VR.mkTuple h
  | [], _ :: _, h => have := h.1; simp at this
  | [v], [], h => have := h.1; simp at this
  | [v], _ :: _ :: _, h => have := h.1; simp at this
  | _ :: _ :: _, [], h => have := h.1; simp at this
  | _ :: _ :: _, [_], h => have := h.1; simp at this

inductive LeaveAt : List Item → Option Code → Prop where
  | over : LeaveAt [] none
  | ret (k : List Item) : LeaveAt (.code .ret :: k) (some .ret)
  | exit (l : Nat) (k : List Item) (h : exitTo l k = none) : LeaveAt (.code (.exit l) :: k) (some (.exit l))
  | goto (l : Nat) (k : List Item) (h : gotoIn l k = none) : LeaveAt (.code (.goto l) :: k) (some (.goto l))

theorem st_leave_round {b : Nat} {jump : Option Code} {v : Value} {c : Frame} {rest : List Frame} (hm : fr.mode = .run) (hk : fr.kind = .normal) (hr : fr.roundOf = some b) (ht : LeaveAt fr.todo jump) (hrun : (Instr.endRound b jump).run P w = .ok v w') :
    step P (lone fr (c :: rest) w) = .next (lone (c.finish v) rest w') := by
  generalize hg : fr.todo = td at ht
  refine step_lone_go ?_
  cases ht with
  | over => simp [stepG, stepG.exec, hm, hg, hr, hrun, doReturn, hk]
  | ret k => simp [stepG, stepG.exec, hm, hg, hr, hrun, doReturn, hk]
  | exit l k h => simp [stepG, stepG.exec, hm, hg, hr, hrun, doReturn, hk, h]
  | goto l k h => simp [stepG, stepG.exec, hm, hg, hr, hrun, doReturn, hk, h]

theorem run_getLoop {b : Nat} {lp : Loop} (h : w.heap[b]? = some (.loop lp)) : (Instr.getLoop b).run P w = .ok lp w := by
  simp only [Instr.getLoop, Sem.run_bind, getObj_run (P := P) h (by intro c e f h; cases h), Result.andThen_ok, Sem.run_pure]

theorem leaveV_ok (hF : F.ok P) {jump : Option Code} {v : Value} {t' : Tr} {n' : Nat} (h : leaveV P F fid rnd ts jump dfs t n = .ok (v, t', n')) (hj : LeaveAt todo jump) (hj2 : rnd = none → todo = [] ∨ ∃ k, todo = .code .ret :: k) : n ≤ n' ∧
    ∀ σ w fr cs, FrR σ fr fid rnd ts todo dfs → Holds σ t.mem w → Fresh σ n n' →
      ∃ σ' w' v', Ext t.mem n n' σ σ' t'.mem w w' ∧ VR σ' v v' ∧ Ends P w fr cs rnd v' w' := by
  unfold leaveV at h
  split at h
  · split at h
    case h_2 => cases h
    rename_i row t1 hrow ht1
    cases hov : row.ovl with
    | some x => rw [hov] at h; cases h
    | none =>
    rw [hov] at h
    simp only [Option.isSome_none, cond_false] at h
    split at h
    case h_2 => cases h
    rename_i vs hvs
    cases h
    refine ⟨Nat.le_refl _, fun σ w fr cs hfr H hf => ?_⟩
    obtain ⟨fn, g1, g2, g3, g4, g5⟩ := hF.code _ _ hrow hov
    have hrnd : fr.roundOf = none := hfr.rnd
    have hs1 : step P (lone fr cs w) = .next (lone { fr with mode := .returning } cs w) := by
      rcases hj2 rfl with h | ⟨k, h⟩
      · exact st_end hfr.mode hrnd (hfr.todo.trans h)
      · exact st_ret hfr.mode hrnd (hfr.todo.trans h)
    obtain ⟨w', e1, e2⟩ := take_ok (n := n) (P := P) (cs := cs) dfs t _ w { fr with mode := .returning } ht1 rfl hfr.defs H
    obtain ⟨vs', r1, r2⟩ := resV_ok (P := P) (fr := fr) e1.holds hfr.tmps _ _ hvs
    refine ⟨σ, w', _, e1, oneV_rel r1, ⟨_, .head hs1 e2, rfl, rfl, rfl, hfr.kind, fn, by rw [← hfr.fn] at g1; exact g1, ?_⟩⟩
    simp only [results_eq, Sem.run_bind, Array.mapM_eq_mapM_toList, Sem.run_map, g4, r2, Result.andThen_ok, Sem.run_pure]
  · rename_i l
    split at h
    case h_2 => cases h
    rename_i lp hlp
    cases hb : Nat.blt l top with
    | false => rw [hb] at h; cases h
    | true =>
      rw [hb, cond_true] at h
      cases h
      have hlt : l < top := Nat.le_of_ble_eq_true hb
      refine ⟨Nat.le_refl _, fun σ w fr cs hfr H hf => ?_⟩
      obtain ⟨p, d, lp', a0, a0', a1, a2, a3, a4, a5, a6, a7, a8, a9⟩ := H.loop hlp
      obtain ⟨q, hq, hro⟩ := hfr.rnd
      rw [a0] at hq; cases hq
      have e1 := Ext.setObj (n := n) H hlp a0 (o' := .loop { lp with state := if jump.isNone then .ready else .done, pending := jump }) (x' := .loop { lp' with state := if jump.isNone then .ready else .done, pending := jump })
        (.loop _ _ p d rfl rfl a3 a4 a5 a6 a7 a8 a9)
      have hrun : (Instr.endRound p.blk jump).run P w = .ok (.bool jump.isNone) { w with heap := w.heap.setIfInBounds p.blk (.loop { lp' with state := if jump.isNone then .ready else .done, pending := jump }) } := by
        simp only [Instr.endRound, Sem.run_bind, run_getLoop a0', Result.andThen_ok, setObj_run (P := P) a0' (by intro c e f h; cases h), Sem.run_pure]
      refine ⟨σ, _, _, by rw [Tr.mem_set hlt]; exact e1, .bool _, fun c rest hc => ?_⟩
      subst hc
      exact .one (st_leave_round hfr.mode hfr.kind hro (by rw [hfr.todo]; exact hj) hrun)

/-- What a region that draws its order must come to. -/
def DrOK (P : Program) (ih : Rec) (D : List Oper → List Value → Tr → Nat → Except String (List Value × Tr × Nat)) : Prop :=
  ∀ (ops : Array Oper) (ts : List Value) (t : Tr) (n : Nat) (ts' : List Value) (t' : Tr) (n' : Nat), D ops.toList ts t n = .ok (ts', t', n') → n ≤ n' →
    ∀ σ w fr cs id k, fr.mode = .run → LR σ ts fr.tmps.toList → fr.todo = .code (.region id ops true) :: k → Holds σ t.mem w → Fresh σ n n' →
      ∃ σ' w' tmps', Ext t.mem n n' σ σ' t'.mem w w' ∧ LR σ' ts' tmps'.toList ∧ Steps P (lone fr cs w) (lone { fr with tmps := tmps', todo := k } cs w')

theorem st_endRange {b : Nat} {jump : Option Code} (hm : fr.mode = .run) (ht : fr.todo = .endRangeFunc b :: k) (hr : (Instr.endLoop b).run P w = .ok jump w') :
    step P (lone fr cs w) = .next (lone { fr with todo := (jump.map Item.code).toList ++ k } cs w') :=
  step_lone_go (by simp [stepG, stepG.exec, hm, ht, hr])

theorem st_beginRound {b : Nat} (hm : fr.mode = .run) (ht : fr.todo = .beginRound :: k) (hro : fr.roundOf = some b) (hr : (Instr.beginRound b).run P w = .ok () w') :
    step P (lone fr cs w) = .next (lone { fr with todo := k } cs w') := by
  refine step_lone_go ?_
  simp [stepG, stepG.exec, stepG.apply, hm, ht, hro, Sem.run_bind, hr, Frame.finish]

theorem st_rangeFunc {f : Operand} {params : Array Tmp} {assign body : Code} {l : Nat} {mark : List Deferred} {g : FuncId} {caps : Array Value} (hm : fr.mode = .run) (ht : fr.todo = .code (.rangeFunc f params assign body) :: k)
    (hr : (Instr.enterLoop fr.fn fr.tmps params assign body fr.roundOf).run P w = .ok (l, mark) w') (hf : fr.eval f = .func (.func g) #[] caps) {fn : Func} (g1 : P.funcs[g]? = some fn) (g2 : fn.body.isSome = true) (g5 : (fn.name == "runtime.NumGoroutine") = false) :
    step P (lone fr cs w) = .next (lone (Frame.enter P g (#[.func (.yield l) #[] #[]] ++ caps) .normal) ({ fr with todo := .inRangeFunc l :: k, defers := mark ++ fr.defers } :: cs) w') := by
  have g6 : ¬ fn.name = "runtime.NumGoroutine" := by simpa using g5
  have g3 : fn.body.isNone = false := by cases hb : fn.body <;> simp_all
  have h1 : (stepG P true { frame := fr, callers := cs, status := .running, dying := none } w).bare =
      (stepG.apply P true { fr with todo := .inRangeFunc l :: k, defers := mark ++ fr.defers } cs none
        (do let d ← resolve ({ fr with todo := .inRangeFunc l :: k, defers := mark ++ fr.defers } : Frame).eval { callee := .value f, args := #[.const (.func (.yield l) #[] #[])], argTypes := #[] } 0; invoke d.target d.args) w').bare := by
    simp [stepG, stepG.exec, hm, ht, hr]
  refine step_lone_go ?_
  rw [h1]
  generalize hfr2 : ({ fr with todo := .inRangeFunc l :: k, defers := mark ++ fr.defers } : Frame) = fr2
  have hf2 : fr2.eval f = .func (.func g) #[] caps := by
    subst hfr2
    cases f <;> exact hf
  have hc2 : fr2.eval (.const (.func (.yield l) #[] #[])) = .func (.yield l) #[] #[] := rfl
  have ht2 : fr2.todo = .inRangeFunc l :: k := by subst hfr2; rfl
  have hrun : (do let d ← resolve fr2.eval { callee := .value f, args := #[.const (.func (.yield l) #[] #[])], argTypes := #[] } 0; invoke d.target d.args : Sem Next).run P w' = .ok (.enter g (#[.func (.yield l) #[] #[]] ++ caps)) w' := by
    have hmap : (#[Operand.const (.func (.yield l) #[] #[])].map fr2.eval) = #[.func (.yield l) #[] #[]] := by simp [hc2]
    have g3' : ¬ fn.body = none := by intro h; rw [h] at g2; cases g2
    simp [resolve, hmap, hf2, Deferred.ofValue, invoke, callFunc, Sem.run_bind, g1, g6, g3']
  unfold stepG.apply
  dsimp only
  rw [if_pos rfl, Sem.runT_eq, hrun]
  simp [ht2]

theorem run_endLoop {b : Nat} {lp : Loop} (h : w.heap[b]? = some (.loop lp)) (hs : (lp.state == .busy) = false) :
    (Instr.endLoop b).run P w = .ok lp.pending { w with heap := w.heap.setIfInBounds b (.loop { lp with state := .exhausted }) } := by
  simp only [Instr.endLoop, Sem.run_bind, run_getLoop h, Result.andThen_ok, hs, Bool.false_eq_true, if_false, Sem.run_pure, setObj_run (P := P) h (by intro c e f h; cases h)]

/-- What comes behind the function that is ranged over. -/
theorem after_range {ih : Rec} (hih : RecOK P ih) {l : Nat} {lp : Loop} {v : Value} {t' t1 : Tr} {n1 n' : Nat} (hl : t1.mem l = some (.loop lp)) (hlt : l < top) (hb : (lp.state == .busy) = false)
    (h : ih fid rnd ts ((lp.pending.map Item.code).toList ++ k) dfs (Tr.set 24 t1 l (some (.loop { lp with state := .exhausted }))) n1 = .ok (v, t', n')) :
    n1 ≤ n' ∧ ∀ σ w fr cs p, σ l = some p → FrR σ { fr with todo := k } fid rnd ts k dfs → fr.todo = .endRangeFunc p.blk :: k → Holds σ t1.mem w → Fresh σ n1 n' →
      ∃ σ' w' v', Ext t1.mem n1 n' σ σ' t'.mem w w' ∧ VR σ' v v' ∧ Ends P w fr cs rnd v' w' := by
  obtain ⟨hle, hrec⟩ := hih _ _ _ _ _ _ _ _ _ _ h
  refine ⟨hle, fun σ w fr cs p hp hfr htodo H hf => ?_⟩
  obtain ⟨q, d, lp', a0, a0', a1, a2, a3, a4, a5, a6, a7, a8, a9⟩ := H.loop hl
  rw [hp] at a0; cases a0
  have e1 := Ext.setObj (n := n1) H hl hp (o' := .loop { lp with state := .exhausted }) (x' := .loop { lp' with state := .exhausted }) (.loop _ _ p d rfl a2 a3 a4 a5 a6 a7 a8 a9)
  have hrun := run_endLoop (P := P) a0' (by rw [a1]; exact hb)
  have hs := st_endRange (P := P) (cs := cs) (fr := fr) hfr.mode htodo hrun
  have hfr2 : FrR σ { fr with todo := (lp'.pending.map Item.code).toList ++ k } fid rnd ts ((lp.pending.map Item.code).toList ++ k) dfs := ⟨hfr.mode, hfr.kind, hfr.fn, hfr.tmps, by simp only [a2], hfr.defs, hfr.rnd⟩
  obtain ⟨σ', w', v', f1, f2, f3⟩ := hrec σ _ _ cs hfr2 (by rw [Tr.mem_set hlt]; exact e1.holds) hf
  rw [Tr.mem_set hlt] at f1
  exact ⟨σ', w', v', e1.trans f1, f2, Ends.head (.one hs) rfl f3⟩

set_option maxHeartbeats 1000000 in
theorem evRange_ok {ih : Rec} (hF : F.ok P) (hih : RecOK P ih) {f : Operand} {params : Array Tmp} {assign body : Code} {v : Value} {t' : Tr} {n' : Nat}
    (h : evRange F ih fid rnd ts f params assign body k dfs t n = .ok (v, t', n')) : n ≤ n' ∧
    ∀ σ w fr cs, FrR σ fr fid rnd ts (.code (.rangeFunc f params assign body) :: k) dfs → Holds σ t.mem w → Fresh σ n n' →
      ∃ σ' w' v', Ext t.mem n n' σ σ' t'.mem w w' ∧ VR σ' v v' ∧ Ends P w fr cs rnd v' w' := by
  unfold evRange at h
  split at h
  case h_2 => cases h
  rename_i g first caps hfv
  have hcaller : ∀ {t0 : Tr} {n0 n1 l : Nat} {u : Value} {t1 : Tr}, chk n0 (evCall F ih g (.func (.yield l) #[] #[] :: caps.toList) t0 n0) = .ok (u, t1, n1) →
      evCall F ih g (.func (.yield l) #[] #[] :: caps.toList) t0 n0 = .ok (u, t1, n1) ∧ n0 ≤ n1 ∧ ∃ row, F g = some row ∧ row.ovl = none := by
    intro t0 n0 n1 l u t1 hc
    unfold chk at hc
    split at hc
    case h_2 => cases hc
    rename_i u2 t2 n2 hop
    cases hle : Nat.ble n0 n2 with
    | false => rw [hle] at hc; cases hc
    | true =>
      rw [hle, cond_true] at hc
      cases hc
      refine ⟨hop, Nat.le_of_ble_eq_true hle, ?_⟩
      unfold evCall at hop
      split at hop
      · rename_i row hrow
        split at hop
        · rename_i hov; exact ⟨row, hrow, hov⟩
        · cases hop
      · cases hop
  split at h
  · -- outermost
    cases hb : Nat.blt (n + 1) top with
    | false => rw [hb] at h; cases h
    | true =>
      rw [hb, cond_true] at h
      have hlt : n + 1 < top := Nat.le_of_ble_eq_true hb
      split at h
      case h_2 => cases h
      rename_i u t1 n1 hc
      obtain ⟨hc, hle1, row, hrow, hov⟩ := hcaller hc
      split at h
      case h_2 => cases h
      rename_i lp hlp
      cases hbusy : (lp.state == .busy) with
      | true => rw [hbusy] at h; cases h
      | false =>
        rw [hbusy, cond_false] at h
        obtain ⟨hle2, hafter⟩ := after_range hih hlp hlt hbusy h
        obtain ⟨_, hcall⟩ := evCall_ok hF hih hc
        refine ⟨by omega, fun σ w fr cs hfr H hf => ?_⟩
        obtain ⟨fn, g1, g2, g3, g4, g5⟩ := hF.code g row hrow hov
        have hfe := env_ok (fr := fr) hfr.tmps f _ hfv
        generalize hgf : fr.eval f = fv at hfe
        cases hfe with
        | func g caps caps' hs hv =>
        have n0 : σ n = none := hf n (Nat.le_refl _) (by omega)
        have e1 := Ext.alloc (n := n) (o := .defs (some [])) (x := .deferred (some [])) (p := ⟨w.heap.size, 0, 0, 0⟩) H n0 rfl (.defs _)
        have n1' := e1.fresh hf
        have n1n := n1' (n + 1) (Nat.le_refl _) (by omega)
        have e2 := Ext.alloc (n := n + 1) (o := .loop { state := .ready, pending := none, fn := fid, tmps := ts.toArray, params, assign, body, defers := n })
          (x := .loop { state := .ready, pending := none, fn := fr.fn, tmps := fr.tmps, params, assign, body, defers := w.heap.size }) (p := ⟨w.heap.size + 1, 0, 0, 0⟩) e1.holds n1n (by simp)
          (.loop _ _ _ ⟨w.heap.size, 0, 0, 0⟩ rfl rfl hfr.fn (by simpa using hfr.tmps.mono (e1.more.trans (Sg.put_le n1n))) rfl rfl rfl (Sg.put_le n1n _ _ Sg.put_same) rfl)
        have e12 := e1.trans e2
        have hmem : (Tr.set 24 (Tr.set 24 t n (some (.defs (some [])))) (n + 1) (some (.loop { state := .ready, pending := none, fn := fid, tmps := ts.toArray, params, assign, body, defers := n }))).mem =
            fun j => if j = n + 1 then some (.loop { state := .ready, pending := none, fn := fid, tmps := ts.toArray, params, assign, body, defers := n }) else if j = n then some (.defs (some [])) else t.mem j := by
          rw [Tr.mem_set hlt, Tr.mem_set (by omega)]
        have hle12 := e12.more
        have hyl : LR ((σ.put n ⟨w.heap.size, 0, 0, 0⟩).put (n + 1) ⟨w.heap.size + 1, 0, 0, 0⟩) (.func (.yield (n + 1)) #[] #[] :: caps.toList) (.func (.yield (w.heap.size + 1)) #[] #[] :: caps'.toList) :=
          LR.cons (.yield (n + 1) _ Sg.put_same) ((LR.ofAgg hs hv).mono hle12)
        have hdef : DR σ dfs fr.defers := hfr.defs
        obtain ⟨σ3, w3, v3, f1, f2, f3⟩ := hcall _ _ _ { fr with todo := .inRangeFunc (w.heap.size + 1) :: k, defers := [{ target := .collected w.heap.size, args := #[] }] ++ fr.defers } cs hyl
          (by rw [hmem]; exact e2.holds) (by
            have := e12.fresh hf
            exact this.part (Nat.le_refl _) hle2)
        rw [hmem] at f1
        have e123 := e12.trans f1
        have hfresh3 := e123.fresh hf
        have hl3 : σ3 (n + 1) = some ⟨w.heap.size + 1, 0, 0, 0⟩ := f1.more _ _ Sg.put_same
        have hn3 : σ3 n = some ⟨w.heap.size, 0, 0, 0⟩ := f1.more _ _ (Sg.put_le n1n _ _ Sg.put_same)
        have hst := st_rangeFunc (P := P) (cs := cs) (fr := fr) (w := w) (w' := (w.alloc (.deferred (some []))).alloc (.loop { state := .ready, pending := none, fn := fr.fn, tmps := fr.tmps, params, assign, body, defers := w.heap.size }))
          (l := w.heap.size + 1) (mark := [{ target := .collected w.heap.size, args := #[] }]) hfr.mode hfr.todo (by
            have hro : fr.roundOf = none := hfr.rnd
            simp [Instr.enterLoop, hro, Sem.run_bind]) hgf g1 (by rw [g2]; rfl) g5
        have happ : (#[Value.func (.yield (w.heap.size + 1)) #[] #[]] ++ caps') = (Value.func (.yield (w.heap.size + 1)) #[] #[] :: caps'.toList).toArray := by apply Array.ext'; simp
        rw [happ] at hst
        obtain ⟨σ4, w4, v4, q1, q2, q3⟩ := hafter σ3 w3 { fr with todo := .endRangeFunc (w.heap.size + 1) :: k, defers := [{ target := .collected w.heap.size, args := #[] }] ++ fr.defers } cs ⟨w.heap.size + 1, 0, 0, 0⟩ hl3
          ⟨hfr.mode, hfr.kind, hfr.fn, hfr.tmps.mono e123.more, rfl, .cons n _ dfs fr.defers hn3 (hdef.mono e123.more), hfr.rnd.mono e123.more⟩ rfl f1.holds hfresh3
        exact ⟨σ4, w4, v4, e123.trans q1, q2, Ends.head (.head hst f3) rfl q3⟩
  · -- in a round
    rename_i l
    split at h
    case h_2 => cases h
    rename_i lp0 hlp0
    cases hb : Nat.blt n top with
    | false => rw [hb] at h; cases h
    | true =>
      rw [hb, cond_true] at h
      have hlt : n < top := Nat.le_of_ble_eq_true hb
      split at h
      case h_2 => cases h
      rename_i u t1 n1 hc
      obtain ⟨hc, hle1, row, hrow, hov⟩ := hcaller hc
      split at h
      case h_2 => cases h
      rename_i lp hlp
      cases hbusy : (lp.state == .busy) with
      | true => rw [hbusy] at h; cases h
      | false =>
        rw [hbusy, cond_false] at h
        obtain ⟨hle2, hafter⟩ := after_range hih hlp hlt hbusy h
        obtain ⟨_, hcall⟩ := evCall_ok hF hih hc
        refine ⟨by omega, fun σ w fr cs hfr H hf => ?_⟩
        obtain ⟨fn, g1, g2, g3, g4, g5⟩ := hF.code g row hrow hov
        have hfe := env_ok (fr := fr) hfr.tmps f _ hfv
        generalize hgf : fr.eval f = fv at hfe
        cases hfe with
        | func g caps caps' hs hv =>
        obtain ⟨p0, d0, lp0', a0, a0', a1, a2, a3, a4, a5, a6, a7, a8, a9⟩ := H.loop hlp0
        obtain ⟨q0, hq0, hro⟩ := hfr.rnd
        rw [a0] at hq0; cases hq0
        have n0 : σ n = none := hf n (Nat.le_refl _) (by omega)
        have e1 := Ext.alloc (n := n) (o := .loop { state := .ready, pending := none, fn := fid, tmps := ts.toArray, params, assign, body, defers := lp0.defers })
          (x := .loop { state := .ready, pending := none, fn := fr.fn, tmps := fr.tmps, params, assign, body, defers := lp0'.defers }) (p := ⟨w.heap.size, 0, 0, 0⟩) H n0 rfl
          (.loop _ _ _ d0 rfl rfl hfr.fn (by simpa using hfr.tmps.mono (Sg.put_le n0)) rfl rfl rfl (Sg.put_le n0 _ _ a8) a9)
        have hyl : LR (σ.put n ⟨w.heap.size, 0, 0, 0⟩) (.func (.yield n) #[] #[] :: caps.toList) (.func (.yield w.heap.size) #[] #[] :: caps'.toList) :=
          LR.cons (.yield n _ Sg.put_same) ((LR.ofAgg hs hv).mono e1.more)
        have hdef : DR σ dfs fr.defers := hfr.defs
        obtain ⟨σ3, w3, v3, f1, f2, f3⟩ := hcall _ _ _ { fr with todo := .inRangeFunc w.heap.size :: k, defers := [] ++ fr.defers } cs hyl
          (by rw [Tr.mem_set hlt]; exact e1.holds) ((e1.fresh hf).part (Nat.le_refl _) hle2)
        rw [Tr.mem_set hlt] at f1
        have e123 := e1.trans f1
        have hfresh3 := e123.fresh hf
        have hl3 : σ3 n = some ⟨w.heap.size, 0, 0, 0⟩ := f1.more _ _ Sg.put_same
        have hst := st_rangeFunc (P := P) (cs := cs) (fr := fr) (w := w) (w' := w.alloc (.loop { state := .ready, pending := none, fn := fr.fn, tmps := fr.tmps, params, assign, body, defers := lp0'.defers }))
          (l := w.heap.size) (mark := []) hfr.mode hfr.todo (by
            simp [Instr.enterLoop, hro, Sem.run_bind, run_getLoop a0']) hgf g1 (by rw [g2]; rfl) g5
        have happ : (#[Value.func (.yield w.heap.size) #[] #[]] ++ caps') = (Value.func (.yield w.heap.size) #[] #[] :: caps'.toList).toArray := by apply Array.ext'; simp
        rw [happ] at hst
        obtain ⟨σ4, w4, v4, q1, q2, q3⟩ := hafter σ3 w3 { fr with todo := .endRangeFunc w.heap.size :: k, defers := [] ++ fr.defers } cs ⟨w.heap.size, 0, 0, 0⟩ hl3
          ⟨hfr.mode, hfr.kind, hfr.fn, hfr.tmps.mono e123.more, rfl, hdef.mono e123.more, hfr.rnd.mono e123.more⟩ rfl f1.holds hfresh3
        exact ⟨σ4, w4, v4, e123.trans q1, q2, Ends.head (.head hst f3) rfl q3⟩

end
end Ev
end Go.Proofs.YtgidmgkebkodoaaGreatDoor
