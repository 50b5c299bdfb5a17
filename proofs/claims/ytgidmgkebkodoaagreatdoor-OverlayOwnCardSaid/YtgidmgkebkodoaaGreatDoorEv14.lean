/- A run on closed data, reckoned by the kernel, 14: the whole. -/
import Derived.Test.YtgidmgkebkodoaaGreatDoorEv13
set_option linter.unusedSimpArgs false
set_option linter.unusedVariables false
set_option linter.unusedSectionVars false
namespace Go.Proofs.YtgidmgkebkodoaaGreatDoor
open Go.RowKit
namespace Ev
variable [Vars]
noncomputable section

section
variable {P : Program} {F : Book} {ih : Rec} {D : Drawn}

/-- One step that changes the rest of the work alone. -/
theorem rec_to (hih : RecOK P ih) {fid : FuncId} {rnd : Option Nat} {ts : List Value} {k todo : List Item} {dfs : List Nat} {t t' : Tr} {n n' : Nat} {v : Value}
    (hst : ∀ (fr : Frame) (cs : List Frame) (w : World) (σ : Sg), FrR σ fr fid rnd ts todo dfs → step P (lone fr cs w) = .next (lone { fr with todo := k } cs w)) (h : ih fid rnd ts k dfs t n = .ok (v, t', n')) :
    n ≤ n' ∧ ∀ σ w fr cs, FrR σ fr fid rnd ts todo dfs → Holds σ t.mem w → Fresh σ n n' → ∃ σ' w' v', Ext t.mem n n' σ σ' t'.mem w w' ∧ VR σ' v v' ∧ Ends P w fr cs rnd v' w' := by
  obtain ⟨hle, hrec⟩ := hih _ _ _ _ _ _ _ _ _ _ h
  refine ⟨hle, fun σ w fr cs hfr H hf => ?_⟩
  obtain ⟨σ', w', v', e1, e2, e3⟩ := hrec σ w _ cs (hfr.to k) H hf
  exact ⟨σ', w', v', e1, e2, Ends.head (.one (hst fr cs w σ hfr)) rfl e3⟩

theorem rec_region (hih : RecOK P ih) {fid : FuncId} {rnd : Option Nat} {ts ts' : List Value} {k todo : List Item} {dfs : List Nat} {t t1 t' : Tr} {n n1 n' : Nat} {v : Value} (hle1 : n ≤ n1)
    (hreg : ∀ σ w fr cs, FrR σ fr fid rnd ts todo dfs → Holds σ t.mem w → Fresh σ n n1 → ∃ σ' w' tmps', Ext t.mem n n1 σ σ' t1.mem w w' ∧ LR σ' ts' tmps'.toList ∧ Steps P (lone fr cs w) (lone { fr with tmps := tmps', todo := k } cs w'))
    (h : ih fid rnd ts' k dfs t1 n1 = .ok (v, t', n')) :
    n ≤ n' ∧ ∀ σ w fr cs, FrR σ fr fid rnd ts todo dfs → Holds σ t.mem w → Fresh σ n n' → ∃ σ' w' v', Ext t.mem n n' σ σ' t'.mem w w' ∧ VR σ' v v' ∧ Ends P w fr cs rnd v' w' := by
  obtain ⟨hle, hrec⟩ := hih _ _ _ _ _ _ _ _ _ _ h
  refine ⟨by omega, fun σ w fr cs hfr H hf => ?_⟩
  obtain ⟨σ1, w1, tmps', e1, e2, e3⟩ := hreg σ w fr cs hfr H (hf.part (Nat.le_refl _) hle)
  obtain ⟨σ', w', v', f1, f2, f3⟩ := hrec σ1 w1 { fr with tmps := tmps', todo := k } cs ⟨hfr.mode, hfr.kind, hfr.fn, e2, rfl, hfr.defs.mono e1.more, hfr.rnd.mono e1.more⟩ e1.holds (e1.fresh hf)
  exact ⟨σ', w', v', e1.trans f1, f2, Ends.head e3 rfl f3⟩

set_option maxHeartbeats 1000000 in
theorem stepF_ok (hF : F.ok P) (hih : RecOK P ih) (hD : DrOK P ih (D ih)) : RecOK P (stepF P F ih D) := by
  intro fid rnd ts todo dfs t n v t' n' h
  unfold stepF at h
  split at h
  · -- over
    exact leaveV_ok hF h .over fun _ => .inl rfl
  · rename_i c k
    split at h
    · exact rec_to hih (fun fr cs w σ hfr => st_skip hfr.mode hfr.todo) h
    · exact rec_to hih (fun fr cs w σ hfr => st_label hfr.mode hfr.todo) h
    · exact leaveV_ok hF h (.ret _) fun _ => .inr ⟨_, rfl⟩
    · exact rec_to hih (fun fr cs w σ hfr => st_seq hfr.mode hfr.todo) h
    · rename_i x a b
      split at h
      · rename_i hx
        exact rec_to hih (fun fr cs w σ hfr => by
          have := env_ok (fr := fr) hfr.tmps _ _ hx
          generalize hg : fr.eval x = y at this
          cases this
          exact st_cond (b := true) hfr.mode hfr.todo hg) h
      · rename_i hx
        exact rec_to hih (fun fr cs w σ hfr => by
          have := env_ok (fr := fr) hfr.tmps _ _ hx
          generalize hg : fr.eval x = y at this
          cases this
          exact st_cond (b := false) hfr.mode hfr.todo hg) h
      · cases h
    · exact rec_to hih (fun fr cs w σ hfr => st_block hfr.mode hfr.todo) h
    · exact rec_to hih (fun fr cs w σ hfr => st_loop hfr.mode hfr.todo) h
    · exact rec_to hih (fun fr cs w σ hfr => st_scope hfr.mode hfr.todo) h
    · rename_i l
      split at h
      · rename_i k' hk'
        exact rec_to hih (fun fr cs w σ hfr => st_exit hfr.mode hfr.todo hk') h
      · rename_i hk'
        split at h
        · exact leaveV_ok hF h (.exit l k hk') fun h => by cases h
        · cases h
    · rename_i l
      split at h
      · rename_i k' hk'
        exact rec_to hih (fun fr cs w σ hfr => st_goto hfr.mode hfr.todo hk') h
      · rename_i hk'
        split at h
        · exact leaveV_ok hF h (.goto l k hk') fun h => by cases h
        · cases h
    · rename_i id ops
      split at h
      case h_2 => cases h
      rename_i ts' t1 n1 hs
      cases hb : Nat.ble n n1 with
      | false => rw [hb] at h; cases h
      | true =>
        rw [hb, cond_true] at h
        obtain ⟨hle, hrec⟩ := evSeq_ok (k := k) (cs := []) hF hih ops ops.toList 0 ts t n ts' t1 n1 rfl hs
        refine rec_region hih hle (fun σ w fr cs hfr H hf => ?_) h
        obtain ⟨_, hrec⟩ := evSeq_ok (k := k) (cs := cs) hF hih ops ops.toList 0 ts t n ts' t1 n1 rfl hs
        obtain ⟨σ', w', tmps', e1, e2, e3⟩ := hrec σ w { fr with todo := .inRegion ops ((List.range ops.size).drop 0) :: k } hfr.mode hfr.tmps rfl H hf
        exact ⟨σ', w', tmps', e1, e2, .head (st_region hfr.mode hfr.todo) e3⟩
    · rename_i id ops
      split at h
      case h_2 => cases h
      rename_i ts' t1 n1 hs
      cases hb : Nat.ble n n1 with
      | false => rw [hb] at h; cases h
      | true =>
        rw [hb, cond_true] at h
        have hle := Nat.le_of_ble_eq_true hb
        refine rec_region hih hle (fun σ w fr cs hfr H hf => ?_) h
        exact hD ops ts t n ts' t1 n1 hs hle σ w fr cs id k hfr.mode hfr.tmps hfr.todo H hf
    · exact evRange_ok hF hih h
    · cases h
  · exact rec_to hih (fun fr cs w σ hfr => st_inBlock hfr.mode hfr.todo) h
  · exact rec_to hih (fun fr cs w σ hfr => st_inScope hfr.mode hfr.todo) h
  · exact rec_to hih (fun fr cs w σ hfr => st_inLoop hfr.mode hfr.todo) h
  · rename_i k
    split at h
    case h_2 => cases h
    rename_i l
    split at h
    case h_2 => cases h
    rename_i lp hlp
    cases hb : (lp.state == .ready && Nat.blt l top) with
    | false => rw [hb] at h; cases h
    | true =>
      rw [hb, cond_true] at h
      simp only [Bool.and_eq_true] at hb
      have hlt : l < top := Nat.le_of_ble_eq_true hb.2
      have hsr : lp.state = .ready := by simpa using hb.1
      obtain ⟨hle, hrec⟩ := hih _ _ _ _ _ _ _ _ _ _ h
      refine ⟨hle, fun σ w fr cs hfr H hf => ?_⟩
      obtain ⟨p, d, lp', a0, a0', a1, a2, a3, a4, a5, a6, a7, a8, a9⟩ := H.loop hlp
      obtain ⟨q, hq, hro⟩ := hfr.rnd
      rw [a0] at hq; cases hq
      have e1 := Ext.setObj (n := n) H hlp a0 (o' := .loop { lp with state := .busy }) (x' := .loop { lp' with state := .busy }) (.loop _ _ p d rfl a2 a3 a4 a5 a6 a7 a8 a9)
      have hrun : (Instr.beginRound p.blk).run P w = .ok () { w with heap := w.heap.setIfInBounds p.blk (.loop { lp' with state := .busy }) } := by
        simp only [Instr.beginRound, Sem.run_bind, run_getLoop a0', Result.andThen_ok, setObj_run (P := P) a0' (by intro c e f h; cases h), a1, hsr, Sem.run_pure]
      have hst := st_beginRound (P := P) (cs := cs) hfr.mode hfr.todo hro hrun
      obtain ⟨σ', w', v', f1, f2, f3⟩ := hrec σ _ _ cs (hfr.to k) (by rw [Tr.mem_set hlt]; exact e1.holds) hf
      rw [Tr.mem_set hlt] at f1
      exact ⟨σ', w', v', e1.trans f1, f2, Ends.head (.one hst) rfl f3⟩
  · cases h

theorem runF_ok (hF : F.ok P) (hD : ∀ ih, RecOK P ih → DrOK P ih (D ih)) : ∀ f, RecOK P (runF P F D f)
  | 0 => fun _ _ _ _ _ _ _ _ _ _ h => by cases h
  | f + 1 => stepF_ok hF (runF_ok hF hD f) (hD _ (runF_ok hF hD f))

/-- The first free name: above all variables of packages. -/
def name0 : Nat := 0

def known? (P : Program) (F : Book) (D : Drawn) (fuel : Nat) (g : FuncId) (args : List Value) : Out := evCall F (runF P F D fuel) g args .nil name0

/-- A call on data without addresses that is reckoned to come to such a value: whatever the world, it does. -/
theorem calls_of (hF : F.ok P) (hD : ∀ ih, RecOK P ih → DrOK P ih (D ih)) {fuel : Nat} {g : FuncId} {args : List Value} {v : Value} (hp : args.all scal = true) (hv : plain 4 v = true)
    (h : (match known? P F D fuel g args with | .ok (u, _, _) => some u | .error _ => none) = some v) (w : World) (hro : ∀ b x, Vars.ro b = some x → w.heap[b]? = some x) :
    Calls P g (args.map concV).toArray w fun e w' => e = .returned v ∧ Below w.heap.size w w' := by
  intro cs
  unfold known? at h
  split at h
  case h_2 => cases h
  rename_i u t' n' hk
  cases h
  unfold evCall at hk
  split at hk
  case h_2 => cases hk
  rename_i row hrow
  split at hk
  case h_2 => cases hk
  rename_i hov
  cases hsure : (row.sure && args.isEmpty) with
  | true =>
    rw [hsure, cond_true] at hk
    cases hk
    simp only [Bool.and_eq_true, List.isEmpty_iff] at hsure
    obtain ⟨hs1, hs2⟩ := hsure
    subst hs2
    exact hF.sure g row hrow hs1 w cs
  | false =>
  rw [hsure, cond_false] at hk
  obtain ⟨hle, hrun⟩ := runF_ok hF hD fuel _ _ _ _ _ _ _ _ _ _ hk
  obtain ⟨fn, g1, g2, g3, g4, g5⟩ := hF.code g row hrow hov
  have hargs : LR (fun _ => none) args (args.map concV) := ⟨by simp, fun i a b => by
    rw [List.getElem_map]
    exact scal_rel (List.all_eq_true.1 hp _ (List.getElem_mem a))⟩
  have hfr : FrR (fun _ => none) (Frame.enter P g (args.map concV).toArray .normal) g none (args ++ List.replicate (row.ntmps - args.length) undef) [.code row.body] [] := by
    refine ⟨rfl, rfl, rfl, ?_, ?_, .nil, rfl⟩
    · simp only [Frame.enter, g1, Option.map_some, Option.getD_some, g3]
      simpa using hargs.append (LR.rep (row.ntmps - args.length))
    · simp [Frame.enter, g1, g2]
  have H : Holds (fun _ => none) (Tr.mem .nil) w := ⟨fun i o hi => by simp [Tr.mem, Tr.get] at hi, fun i j o o' p q hi => by simp [Tr.mem, Tr.get] at hi, hro, fun i o p hi => by simp [Tr.mem, Tr.get] at hi⟩
  obtain ⟨σ', w', v', e1, e2, e3⟩ := hrun (fun _ => none) w _ cs hfr H (fun _ _ _ => rfl)
  obtain ⟨fr', s1, s2, s3⟩ := e3
  have hveq := plain_eq 4 _ _ hv e2
  subst hveq
  exact ⟨.returned _, w', fr', ⟨rfl, e1.os, e1.tape, e1.output, e1.size, fun k hk => e1.frame k hk fun i o p hi => by simp [Tr.mem, Tr.get] at hi⟩, s1, s2, s3⟩

end
end
end Ev
end Go.Proofs.YtgidmgkebkodoaaGreatDoor
