/- A run on closed data, reckoned by the kernel, 12: what is reckoned is what the machine does. -/
import Derived.Test.YtbanklocochiaaaEv11
set_option linter.unusedSimpArgs false
set_option linter.unusedVariables false
namespace Go.Proofs.Ytbanklocochiaaa
open Go.RowKit
namespace Ev

/-- The marks of range loops. -/
inductive DR (σ : Sg) : List Nat → List Deferred → Prop where
  | nil : DR σ [] []
  | cons (r : Nat) (p : Pl) (rs : List Nat) (ds : List Deferred) (h : σ r = some p) (hs : DR σ rs ds) : DR σ (r :: rs) ({ target := .collected p.blk, args := #[] } :: ds)
theorem DR.mono {σ τ : Sg} (hl : Sg.le σ τ) {rs : List Nat} {ds : List Deferred} (h : DR σ rs ds) : DR τ rs ds := by
  induction h with
  | nil => exact .nil
  | cons r p rs ds h _ ih => exact .cons r p rs ds (hl _ _ h) ih

def RR (σ : Sg) : Option Nat → Option Nat → Prop
  | none, r => r = none
  | some l, r => ∃ p, σ l = some p ∧ r = some p.blk
theorem RR.mono {σ τ : Sg} (hl : Sg.le σ τ) {a b : Option Nat} (h : RR σ a b) : RR τ a b := by
  cases a with
  | none => exact h
  | some l => obtain ⟨p, h1, h2⟩ := h; exact ⟨p, hl _ _ h1, h2⟩

/-- A frame of the machine's, and what the reckoner keeps of it. -/
structure FrR (σ : Sg) (fr : Frame) (fid : FuncId) (rnd : Option Nat) (ts : List Value) (todo : List Item) (dfs : List Nat) : Prop where
  mode : fr.mode = .run
  kind : fr.kind = .normal
  fn : fr.fn = fid
  tmps : LR σ ts fr.tmps.toList
  todo : fr.todo = todo
  defs : DR σ dfs fr.defers
  rnd : RR σ rnd fr.roundOf

section
variable {P : Program} {F : Book} {σ σ' : Sg} {fr : Frame} {fid : FuncId} {rnd : Option Nat} {ts : List Value} {todo k : List Item} {dfs : List Nat} {w w' : World} {cs : List Frame} {t : Tr} {n : Nat}

theorem FrR.mono (h : FrR σ fr fid rnd ts todo dfs) (hl : Sg.le σ σ') : FrR σ' fr fid rnd ts todo dfs :=
  ⟨h.mode, h.kind, h.fn, h.tmps.mono hl, h.todo, h.defs.mono hl, h.rnd.mono hl⟩
theorem FrR.to (h : FrR σ fr fid rnd ts todo dfs) (k : List Item) : FrR σ { fr with todo := k } fid rnd ts k dfs :=
  ⟨h.mode, h.kind, h.fn, h.tmps, rfl, h.defs, h.rnd⟩

/-- How a frame's run ends. -/
def Ends (P : Program) (w : World) (fr : Frame) (cs : List Frame) (rnd : Option Nat) (v' : Value) (w' : World) : Prop :=
  match rnd with
  | none => ∃ fr', Steps P (lone fr cs w) (lone fr' cs w') ∧ fr'.fn = fr.fn ∧ fr'.leaving P w' (.returned v')
  | some _ => ∀ c rest, cs = c :: rest → Steps P (lone fr cs w) (lone (c.finish v') rest w')

theorem Ends.head {fr2 : Frame} {w2 : World} {v' : Value} (hs : Steps P (lone fr cs w) (lone fr2 cs w2)) (hf : fr2.fn = fr.fn) (h : Ends P w2 fr2 cs rnd v' w') : Ends P w fr cs rnd v' w' := by
  cases rnd with
  | none =>
    obtain ⟨fr', h1, h2, h3⟩ := h
    exact ⟨fr', hs.trans h1, h2.trans hf, h3⟩
  | some l => exact fun c rest hc => hs.trans (h c rest hc)

/-- What the reckoner must keep. -/
def RecOK (P : Program) (ih : Rec) : Prop :=
  ∀ fid rnd ts todo dfs t n v t' n', ih fid rnd ts todo dfs t n = .ok (v, t', n') → n ≤ n' ∧
    ∀ σ w fr cs, FrR σ fr fid rnd ts todo dfs → Holds σ t.mem w → Fresh σ n n' →
      ∃ σ' w' v', Ext t.mem n n' σ σ' t'.mem w w' ∧ VR σ' v v' ∧ Ends P w fr cs rnd v' w'

theorem env_ok (hts : LR σ ts fr.tmps.toList) : (envV ts).ok σ fr.eval := by
  intro x v hx
  cases x with
  | tmp i =>
    simp only [envV] at hx
    obtain ⟨y, hy, hr⟩ := hts.get? hx
    have : fr.eval (.tmp i) = y := by
      simp only [Frame.eval]
      rw [Array.getElem?_toList] at hy
      simp [Array.getD_eq_getD_getElem?, hy]
    rw [this]; exact hr
  | const c =>
    simp only [envV] at hx
    cases hp : plain 3 c with
    | false => rw [hp] at hx; cases hx
    | true =>
      rw [hp, cond_true, Option.some.injEq] at hx
      subst hx
      exact plain_rel 3 c hp
  | global g => cases hx
  | func f =>
    simp only [envV, Option.some.injEq] at hx
    subst hx
    exact .func f #[] #[] rfl fun i h => by simp at h

theorem VR.boolIff {v v' : Value} (h : VR σ v v') (b : Bool) : v = .bool b ↔ v' = .bool b := by
  cases h <;> simp

theorem wanted_eq (hts : LR σ ts fr.tmps.toList) (ops : Array Oper) (o : Oper) : Region.wanted o (yielded ops fr.tmps) = wantedV ops.toList ts o := by
  unfold Region.wanted wantedV
  cases hg : o.guard with
  | none => rfl
  | some q =>
    obtain ⟨j, want⟩ := q
    dsimp only
    unfold yielded
    rw [Array.getElem?_toList]
    cases hd : (ops[j]?).bind (·.dst) with
    | none => rfl
    | some d =>
      simp only [Option.bind_some]
      cases ht : ts[d]? with
      | none =>
        have : fr.tmps[d]? = none := by
          rw [← Array.getElem?_toList]
          rw [List.getElem?_eq_none_iff] at ht ⊢
          rw [← hts.1]; exact ht
        rw [this]; rfl
      | some v =>
        obtain ⟨y, hy, hr⟩ := hts.get? ht
        rw [Array.getElem?_toList] at hy
        rw [hy]
        cases hr <;> simp

theorem put_rel (hts : LR σ ts fr.tmps.toList) {v v' : Value} (hv : VR σ v v') (d : Option Tmp) : LR σ (putV ts d v) (putT fr.tmps d v').toList := by
  unfold putV putT
  cases d with
  | none => exact hts
  | some d => simpa using hts.set d hv

theorem setAll_rel : ∀ (ps : List Tmp) (vs vs' ts : List Value) (ts' : Array Value), LR σ vs vs' → LR σ ts ts'.toList → ps.length = vs.length →
    LR σ (setAll ps vs ts) ((ps.zip vs').foldl (fun (tmps : Array Value) (x : Tmp × Value) => tmps.setIfInBounds x.1 x.2) ts').toList
  | [], [], [], ts, ts', _, h, _ => h
  | [], _ :: _, _, _, _, _, _, hl => by simp at hl
  | [], [], _ :: _, _, _, hv, _, _ => by have := hv.1; simp at this
  | p :: ps, [], _, _, _, _, _, hl => by simp at hl
  | p :: ps, v :: vs, [], _, _, hv, _, _ => by have := hv.1; simp at this
  | p :: ps, v :: vs, v' :: vs', ts, ts', hv, h, hl => by
    simp only [setAll, List.zip_cons_cons, List.foldl_cons]
    exact setAll_rel ps vs vs' (ts.set p v) (ts'.setIfInBounds p v') hv.tail (by simpa using h.set p hv.head) (by simpa using hl)

theorem LR.rep (m : Nat) : LR σ (List.replicate m undef) (List.replicate m undef) := by
  refine ⟨rfl, fun i a b => ?_⟩
  simp only [List.getElem_replicate]
  exact undef_rel

/-- A call, as it is reckoned. -/
theorem evCall_ok {ih : Rec} (hF : F.ok P) (hih : RecOK P ih) {g : FuncId} {args : List Value} {v : Value} {t' : Tr} {n' : Nat} (h : evCall F ih g args t n = .ok (v, t', n')) :
    n ≤ n' ∧ ∀ σ w args' c rest, LR σ args args' → Holds σ t.mem w → Fresh σ n n' →
      ∃ σ' w' v', Ext t.mem n n' σ σ' t'.mem w w' ∧ VR σ' v v' ∧ Steps P (lone (Frame.enter P g args'.toArray .normal) (c :: rest) w) (lone (c.finish v') rest w') := by
  unfold evCall at h
  split at h
  case h_2 => cases h
  rename_i row hrow
  obtain ⟨hle, hrun⟩ := hih _ _ _ _ _ _ _ _ _ _ h
  refine ⟨hle, fun σ w args' c rest hargs H hf => ?_⟩
  obtain ⟨fn, g1, g2, g3, g4, g5⟩ := hF g row hrow
  have hfr : FrR σ (Frame.enter P g args'.toArray .normal) g none (args ++ List.replicate (row.ntmps - args.length) undef) [.code row.body] [] := by
    refine ⟨rfl, rfl, rfl, ?_, ?_, .nil, rfl⟩
    · simp only [Frame.enter, g1, Option.map_some, Option.getD_some, g3]
      rw [hargs.1]
      have := hargs.append (LR.rep (σ := σ) (row.ntmps - args'.length))
      simpa using this
    · simp [Frame.enter, g1, g2]
  obtain ⟨σ', w', v', e1, e2, e3⟩ := hrun σ w _ (c :: rest) hfr H hf
  obtain ⟨fr', s1, s2, s3⟩ := e3
  exact ⟨σ', w', v', e1, e2, s1.trans (.one (step_leave_returned s3))⟩

theorem st_op_round {ops : Array Oper} {i : Nat} {rest : List Nat} {o : Oper} {l : Nat} {f : FuncId} {tmps : Array Value} {assign body : Code} (hm : fr.mode = .run) (ht : fr.todo = .inRegion ops (i :: rest) :: k) (ho : ops[i]? = some o) (hw : Region.wanted o (yielded ops fr.tmps) = true) (hd : ∀ c, o.op ≠ .defer c)
    (hr : (execOp fr.eval o).run P w = .ok (.round l f tmps assign body) w') :
    step P (lone fr cs w) = .next (lone (Frame.round l f tmps assign body .normal) (fr :: cs) w') := by
  refine step_lone_go ?_
  rw [stepG_oper hm ht ho hw hd]
  simp [stepG.apply, hr, ht]

theorem getObj_run {r : Nat} {o : Obj} (h : w.heap[r]? = some o) (hn : ∀ c e f, o ≠ .cells c e f) : (getObj r).run P w = .ok o w := by
  simp only [getObj, Sem.run, h]
theorem setObj_run {r : Nat} {o o' : Obj} (h : w.heap[r]? = some o) (hn : ∀ c e f, o ≠ .cells c e f) : (setObj r o').run P w = .ok () { w with heap := w.heap.setIfInBounds r o' } := by
  simp only [setObj, Sem.run, h]

/-- A block that is no row is set. -/
theorem Ext.setObj {h : Mem} (H : Holds σ h w) {i : Nat} {o o' : VO} {p : Pl} {x' : Obj} (hi : h i = some o) (hp : σ i = some p) (hx : OR σ o' p x') :
    Ext h n n σ σ (fun j => if j = i then some o' else h j) w { w with heap := w.heap.setIfInBounds p.blk x' } := by
  have hlt := H.lt hi hp
  exact Ext.write H hi hp rfl rfl rfl (by simp) (fun b hb => by simp [Array.getElem?_setIfInBounds_ne (Ne.symm hb)]) (by simp [hlt]) hx

theorem Holds.loop {h : Mem} (H : Holds σ h w) {l : Nat} {lp : Loop} (hl : h l = some (.loop lp)) :
    ∃ p d lp', σ l = some p ∧ w.heap[p.blk]? = some (.loop lp') ∧ lp'.state = lp.state ∧ lp'.pending = lp.pending ∧ lp'.fn = lp.fn ∧ LR σ lp.tmps.toList lp'.tmps.toList ∧ lp'.params = lp.params ∧
      lp'.assign = lp.assign ∧ lp'.body = lp.body ∧ σ lp.defers = some d ∧ lp'.defers = d.blk := by
  obtain ⟨p, x, h1, h2, h3⟩ := H.lies l _ hl
  cases h3 with
  | loop l l' p d a1 a2 a3 a4 a5 a6 a7 a8 a9 => exact ⟨p, d, l', h1, h2, a1, a2, a3, a4, a5, a6, a7, a8, a9⟩

/-- What an operation comes to, in the frame in which it stands. -/
theorem evOp_ok {ih : Rec} (hF : F.ok P) (hih : RecOK P ih) {o : Oper} {v : Value} {t' : Tr} {n' : Nat} {r : Env} (h : evOp P F ih r o t n = .ok (v, t', n'))
    {ops : Array Oper} {i : Nat} {rest : List Nat} (hm : fr.mode = .run) (hr : r.ok σ fr.eval) (ht : fr.todo = .inRegion ops (i :: rest) :: k) (ho : ops[i]? = some o) (hw : Region.wanted o (yielded ops fr.tmps) = true)
    (H : Holds σ t.mem w) (hf : Fresh σ n n') :
    ∃ σ' w' v', Ext t.mem n n' σ σ' t'.mem w w' ∧ VR σ' v v' ∧ Steps P (lone fr cs w) (lone (fr.finish v') cs w') := by
  have hnd : ∀ c, o.op ≠ .defer c := by
    intro c hc
    unfold evOp ev1 at h
    rw [hc] at h
    simp [evSame, hc, evYield] at h
  unfold evOp at h
  split at h
  · rename_i v1 t1 n1 h1
    cases h
    obtain ⟨σ', w', v', e1, e2, e3⟩ := ev1_ok hF H hr h1 hf
    exact ⟨σ', w', v', e1, e2, .one (st_op_value hm ht ho hw hnd e3)⟩
  · rename_i g args h1
    obtain ⟨args', e1, e2⟩ := ev1_ok hF H hr h1
    obtain ⟨_, hc⟩ := evCall_ok hF hih h
    obtain ⟨σ', w', v', f1, f2, f3⟩ := hc σ w args' fr cs e1 H hf
    exact ⟨σ', w', v', f1, f2, .head (st_op_enter hm ht ho hw hnd e2) f3⟩
  · unfold evYield at h
    split at h
    case h_2 => cases h
    rename_i c hop
    split at h
    case h_2 => cases h
    rename_i f hcal
    split at h
    case h_2 => cases h
    rename_i l first caps args hfv hargs
    split at h
    case h_2 => cases h
    rename_i lp hlp
    cases hb : Nat.beq args.length lp.params.toList.length with
    | false => rw [hb] at h; cases h
    | true =>
      rw [hb, cond_true] at h
      have hb := Nat.eq_of_beq_eq_true hb
      obtain ⟨p, d, lp', a0, a0', a1, a2, a3, a4, a5, a6, a7, a8, a9⟩ := H.loop hlp
      have hfr := hr _ _ hfv
      generalize hgf : fr.eval f = fv at hfr
      cases hfr with
      | yield l q hq =>
      rw [a0] at hq; cases hq
      have hal : LR σ args (c.args.map fr.eval).toList := by simpa using envAll_ok hr _ _ hargs
      have hsz : (c.args.map fr.eval).size = lp'.params.size := by
        have := hal.1
        rw [a5]
        simp only [Array.length_toList] at this hb
        omega
      have hrun : (execOp fr.eval o).run P w = .ok (.round p.blk lp'.fn ((lp'.params.zip (c.args.map fr.eval)).foldl (fun tmps (x : Tmp × Value) => tmps.setIfInBounds x.1 x.2) lp'.tmps) lp'.assign lp'.body) w := by
        have hgo : (Instr.getLoop p.blk).run P w = .ok lp' w := by
          simp only [Instr.getLoop, Sem.run_bind, getObj_run (P := P) a0' (by intro c e f h; cases h), Result.andThen_ok, Sem.run_pure]
        simp only [execOp, hop, resolve, hcal, hgf, Deferred.ofValue, Sem.run_bind, Sem.run_pure, Result.andThen_ok, invoke, Instr.yield, hgo, Array.empty_append, Sem.run_ite]
        rw [if_neg (by simpa using hsz)]
      obtain ⟨_, hrec⟩ := hih _ _ _ _ _ _ _ _ _ _ h
      have hfr2 : FrR σ (Frame.round p.blk lp'.fn ((lp'.params.zip (c.args.map fr.eval)).foldl (fun tmps (x : Tmp × Value) => tmps.setIfInBounds x.1 x.2) lp'.tmps) lp'.assign lp'.body .normal) lp.fn (some l)
          (setAll lp.params.toList args lp.tmps.toList) [.code lp.assign, .beginRound, .code lp.body] [] := by
        refine ⟨rfl, rfl, a3, ?_, by simp [Frame.round, a6, a7], .nil, ⟨p, a0, rfl⟩⟩
        have := setAll_rel lp.params.toList args (c.args.map fr.eval).toList lp.tmps.toList lp'.tmps hal a4 hb.symm
        simp only [Frame.round]
        rw [← Array.foldl_toList, Array.toList_zip, a5]
        exact this
      obtain ⟨σ', w', v', e1, e2, e3⟩ := hrec σ w _ (fr :: cs) hfr2 H hf
      exact ⟨σ', w', v', e1, e2, .head (st_op_round hm ht ho hw hnd hrun) (e3 fr cs rfl)⟩

theorem range_drop (m i : Nat) (h : i < m) : (List.range m).drop i = i :: (List.range m).drop (i + 1) := by
  rw [List.drop_eq_getElem_cons (by simpa using h)]
  simp

/-- A region in the order of the text. -/
theorem evSeq_ok {ih : Rec} (hF : F.ok P) (hih : RecOK P ih) (ops : Array Oper) : ∀ (rest : List Oper) (i : Nat) (ts : List Value) (t : Tr) (n : Nat) (ts' : List Value) (t' : Tr) (n' : Nat), ops.toList.drop i = rest → evSeq P F ih ops.toList rest ts t n = .ok (ts', t', n') →
    n ≤ n' ∧ ∀ σ w fr, fr.mode = .run → LR σ ts fr.tmps.toList → fr.todo = .inRegion ops ((List.range ops.size).drop i) :: k → Holds σ t.mem w → Fresh σ n n' →
      ∃ σ' w' tmps', Ext t.mem n n' σ σ' t'.mem w w' ∧ LR σ' ts' tmps'.toList ∧ Steps P (lone fr cs w) (lone { fr with tmps := tmps', todo := k } cs w')
  | [], i, ts, t, n, ts', t', n', hd, h => by
    simp only [evSeq, Except.ok.injEq, Prod.mk.injEq] at h
    obtain ⟨rfl, rfl, rfl⟩ := h
    refine ⟨Nat.le_refl _, fun σ w fr hm hts ht H hf => ⟨σ, w, fr.tmps, Ext.refl H, hts, ?_⟩⟩
    have hi : ops.size ≤ i := by simpa using List.drop_eq_nil_iff.1 hd
    have : (List.range ops.size).drop i = [] := List.drop_eq_nil_iff.2 (by simpa using hi)
    rw [this] at ht
    exact .one (st_region_end hm ht)
  | o :: rest, i, ts, t, n, ts', t', n', hd, h => by
    have hi : i < ops.size := by
      rcases Nat.lt_or_ge i ops.size with h | h
      · exact h
      · have := List.drop_eq_nil_iff.2 (show ops.toList.length ≤ i by simpa using h)
        rw [this] at hd; cases hd
    have hcons := List.drop_eq_getElem_cons (l := ops.toList) (i := i) (by simpa using hi)
    rw [hd] at hcons
    injection hcons with ho hrest
    have hoi : ops[i]? = some o := by simp [hi, ho]
    simp only [evSeq] at h
    cases hwv : wantedV ops.toList ts o with
    | true =>
      rw [hwv, cond_true] at h
      split at h
      case h_2 => cases h
      rename_i v1 t1 n1 hc
      unfold chk at hc
      split at hc
      case h_2 => cases hc
      rename_i v2 t2 n2 hop
      cases hle : Nat.ble n n2 with
      | false => rw [hle] at hc; cases hc
      | true =>
        rw [hle, cond_true] at hc
        cases hc
        have hle := Nat.le_of_ble_eq_true hle
        obtain ⟨hle2, hrec⟩ := evSeq_ok hF hih ops rest (i + 1) _ _ _ _ _ _ hrest.symm h
        refine ⟨by omega, fun σ w fr hm hts ht H hf => ?_⟩
        rw [range_drop _ _ hi] at ht
        obtain ⟨σ1, w1, v', e1, e2, e3⟩ := evOp_ok (cs := cs) hF hih hop hm (env_ok (fr := fr) hts) ht hoi (by rw [wanted_eq hts]; exact hwv) H (hf.part (Nat.le_refl _) hle2)
        rw [finish_region ht, hoi] at e3
        obtain ⟨σ', w', tmps', f1, f2, f3⟩ := hrec σ1 w1 { fr with tmps := putT fr.tmps o.dst v', todo := .inRegion ops ((List.range ops.size).drop (i + 1)) :: k } hm (put_rel (fr := fr) (hts.mono e1.more) e2 o.dst) rfl e1.holds (e1.fresh hf)
        exact ⟨σ', w', tmps', e1.trans f1, f2, e3.trans f3⟩
    | false =>
      rw [hwv, cond_false] at h
      obtain ⟨hle2, hrec⟩ := evSeq_ok hF hih ops rest (i + 1) _ _ _ _ _ _ hrest.symm h
      refine ⟨hle2, fun σ w fr hm hts ht H hf => ?_⟩
      rw [range_drop _ _ hi] at ht
      have hsk := st_op_skip (P := P) (cs := cs) (w := w) hm ht (by rw [hoi]; simp only [Option.map_some, Option.getD_some]; rw [wanted_eq hts]; exact hwv)
      rw [finish_region ht, hoi] at hsk
      obtain ⟨σ', w', tmps', f1, f2, f3⟩ := hrec σ w { fr with tmps := putT fr.tmps o.dst undef, todo := .inRegion ops ((List.range ops.size).drop (i + 1)) :: k } hm (put_rel (fr := fr) hts undef_rel o.dst) rfl H hf
      exact ⟨σ', w', tmps', f1, f2, .head hsk f3⟩

end
end Ev
end Go.Proofs.Ytbanklocochiaaa
