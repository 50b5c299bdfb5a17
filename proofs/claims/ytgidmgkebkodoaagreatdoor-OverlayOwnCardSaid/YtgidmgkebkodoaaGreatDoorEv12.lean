/- A run on closed data, reckoned by the kernel, 12: what is reckoned is what the machine does. -/
import Derived.Test.YtgidmgkebkodoaaGreatDoorEv11
set_option linter.unusedSimpArgs false
set_option linter.unusedVariables false
set_option linter.unusedSectionVars false
namespace Go.Proofs.YtgidmgkebkodoaaGreatDoor
open Go.RowKit
namespace Ev
variable [Vars]

/-- The marks of range loops. -/
inductive DR (σ : Sg) : List Nat → List Deferred → Prop where
  | nil : DR σ [] []
  | cons (r : Nat) (p : Pl) (rs : List Nat) (ds : List Deferred) (h : σ r = some p) (hs : DR σ rs ds) : DR σ (r :: rs) ({ target := .collected p.blk, args := #[] } :: ds)
theorem DR.mono {σ τ : Sg} (hl : Sg.le σ τ) {rs : List Nat} {ds : List Deferred} (h : DR σ rs ds) : DR τ rs ds := by
  induction h with
  | nil => exact .nil
  | cons r p rs ds h _ ih => exact .cons r p rs ds (hl _ _ h) ih

def RR (σ : Sg) : Option Nat → Option Nat → Prop
  | none, r => r = none
  | some l, r => ∃ p, σ l = some p ∧ r = some p.blk
theorem RR.mono {σ τ : Sg} (hl : Sg.le σ τ) {a b : Option Nat} (h : RR σ a b) : RR τ a b := by
  cases a with
  | none => exact h
  | some l => obtain ⟨p, h1, h2⟩ := h; exact ⟨p, hl _ _ h1, h2⟩

/-- A frame of the machine's, and what the reckoner keeps of it. -/
structure FrR (σ : Sg) (fr : Frame) (fid : FuncId) (rnd : Option Nat) (ts : List Value) (todo : List Item) (dfs : List Nat) : Prop where
  mode : fr.mode = .run
  kind : fr.kind = .normal
  fn : fr.fn = fid
  tmps : LR σ ts fr.tmps.toList
  todo : fr.todo = todo
  defs : DR σ dfs fr.defers
  rnd : RR σ rnd fr.roundOf

section
variable {P : Program} {F : Book} {σ σ' : Sg} {fr : Frame} {fid : FuncId} {rnd : Option Nat} {ts : List Value} {todo k : List Item} {dfs : List Nat} {w w' : World} {cs : List Frame} {t : Tr} {n : Nat}

theorem FrR.mono (h : FrR σ fr fid rnd ts todo dfs) (hl : Sg.le σ σ') : FrR σ' fr fid rnd ts todo dfs :=
  ⟨h.mode, h.kind, h.fn, h.tmps.mono hl, h.todo, h.defs.mono hl, h.rnd.mono hl⟩
theorem FrR.to (h : FrR σ fr fid rnd ts todo dfs) (k : List Item) : FrR σ { fr with todo := k } fid rnd ts k dfs :=
  ⟨h.mode, h.kind, h.fn, h.tmps, rfl, h.defs, h.rnd⟩

/-- How a frame's run ends. -/
def Ends (P : Program) (w : World) (fr : Frame) (cs : List Frame) (rnd : Option Nat) (v' : Value) (w' : World) : Prop :=
  match rnd with
  | none => ∃ fr', Steps P (lone fr cs w) (lone fr' cs w') ∧ fr'.fn = fr.fn ∧ fr'.leaving P w' (.returned v')
  | some _ => ∀ c rest, cs = c :: rest → Steps P (lone fr cs w) (lone (c.finish v') rest w')

theorem Ends.head {fr2 : Frame} {w2 : World} {v' : Value} (hs : Steps P (lone fr cs w) (lone fr2 cs w2)) (hf : fr2.fn = fr.fn) (h : Ends P w2 fr2 cs rnd v' w') : Ends P w fr cs rnd v' w' := by
  cases rnd with
  | none =>
    obtain ⟨fr', h1, h2, h3⟩ := h
    exact ⟨fr', hs.trans h1, h2.trans hf, h3⟩
  | some l => exact fun c rest hc => hs.trans (h c rest hc)

/-- What the reckoner must keep. -/
def RecOK (P : Program) (ih : Rec) : Prop :=
  ∀ fid rnd ts todo dfs t n v t' n', ih fid rnd ts todo dfs t n = .ok (v, t', n') → n ≤ n' ∧
    ∀ σ w fr cs, FrR σ fr fid rnd ts todo dfs → Holds σ t.mem w → Fresh σ n n' →
      ∃ σ' w' v', Ext t.mem n n' σ σ' t'.mem w w' ∧ VR σ' v v' ∧ Ends P w fr cs rnd v' w'

theorem env_ok (hts : LR σ ts fr.tmps.toList) : (envV ts).ok σ fr.eval := by
  intro x v hx
  cases x with
  | tmp i =>
    simp only [envV, getF_eq] at hx
    obtain ⟨y, hy, hr⟩ := hts.get? hx
    have : fr.eval (.tmp i) = y := by
      simp only [Frame.eval]
      rw [Array.getElem?_toList] at hy
      simp [Array.getD_eq_getD_getElem?, hy]
    rw [this]; exact hr
  | const c =>
    simp only [envV] at hx
    cases hp : plain 3 c with
    | false => rw [hp] at hx; cases hx
    | true =>
      rw [hp, cond_true, Option.some.injEq] at hx
      subst hx
      exact plain_rel 3 c hp
  | global g =>
    simp only [envV] at hx
    cases hon : (Vars.on : Bool) with
    | false => rw [hon] at hx; cases hx
    | true =>
      rw [hon, cond_true, Option.some.injEq] at hx
      subst hx
      exact .glob g
  | func f =>
    simp only [envV, Option.some.injEq] at hx
    subst hx
    exact .func f #[] #[] rfl fun i h => by simp at h

theorem VR.boolIff {v v' : Value} (h : VR σ v v') (b : Bool) : v = .bool b ↔ v' = .bool b := by
  cases h <;> simp

theorem wanted_eq (hts : LR σ ts fr.tmps.toList) (ops : Array Oper) (o : Oper) : Region.wanted o (yielded ops fr.tmps) = wantedV ops.toList ts o := by
  unfold Region.wanted wantedV
  simp only [getF_eq]
  cases hg : o.guard with
  | none => rfl
  | some q =>
    obtain ⟨j, want⟩ := q
    dsimp only
    unfold yielded
    rw [Array.getElem?_toList]
    cases hd : (ops[j]?).bind (·.dst) with
    | none => rfl
    | some d =>
      simp only [Option.bind_some]
      cases ht : ts[d]? with
      | none =>
        have : fr.tmps[d]? = none := by
          rw [← Array.getElem?_toList]
          rw [List.getElem?_eq_none_iff] at ht ⊢
          rw [← hts.1]; exact ht
        rw [this]; rfl
      | some v =>
        obtain ⟨y, hy, hr⟩ := hts.get? ht
        rw [Array.getElem?_toList] at hy
        rw [hy]
        cases hr <;> simp

theorem put_rel (hts : LR σ ts fr.tmps.toList) {v v' : Value} (hv : VR σ v v') (d : Option Tmp) : LR σ (putV ts d v) (putT fr.tmps d v').toList := by
  unfold putV putT
  cases d with
  | none => exact hts
  | some d => simpa [setF_eq] using hts.set d hv

theorem setAll_rel : ∀ (ps : List Tmp) (vs vs' ts : List Value) (ts' : Array Value), LR σ vs vs' → LR σ ts ts'.toList → ps.length = vs.length →
    LR σ (setAll ps vs ts) ((ps.zip vs').foldl (fun (tmps : Array Value) (x : Tmp × Value) => tmps.setIfInBounds x.1 x.2) ts').toList
  | [], [], [], ts, ts', _, h, _ => h
  | [], _ :: _, _, _, _, _, _, hl => by simp at hl
  | [], [], _ :: _, _, _, hv, _, _ => by have := hv.1; simp at this
  | p :: ps, [], _, _, _, _, _, hl => by simp at hl
  | p :: ps, v :: vs, [], _, _, hv, _, _ => by have := hv.1; simp at this
  | p :: ps, v :: vs, v' :: vs', ts, ts', hv, h, hl => by
    simp only [setAll, List.zip_cons_cons, List.foldl_cons]
    exact setAll_rel ps vs vs' (ts.set p v) (ts'.setIfInBounds p v') hv.tail (by simpa using h.set p hv.head) (by simpa using hl)

theorem LR.rep (m : Nat) : LR σ (List.replicate m undef) (List.replicate m undef) := by
  refine ⟨rfl, fun i a b => ?_⟩
  simp only [List.getElem_replicate]
  exact undef_rel

/-- A call, as it is reckoned. -/
theorem Ext.below {σ : Sg} {h : Mem} {n : Nat} {w w' : World} (H : Holds σ h w) (hB : Below w.heap.size w w') : Ext h n n σ σ h w w' := by
  refine ⟨Nat.le_refl _, Sg.le.refl _, fun i p hp => .inl hp, ⟨fun i o hi => ?_, fun i j o o' p q hi hj hp hq hb => H.inj i j o o' p q hi hj hp hq hb, fun b x hb => by rw [hB.block b (H.roLt hb)]; exact H.ro b x hb, H.apart⟩, hB.os, hB.tape, hB.output, hB.size, fun b hb _ => hB.block b hb, fun i o' hi => .inl ⟨o', hi⟩, fun i o' p hi hp => .inr ⟨i, o', p, hi, hp, rfl⟩⟩
  obtain ⟨p, x, h1, h2, h3⟩ := H.lies i o hi
  exact ⟨p, x, h1, by rw [hB.block p.blk (H.lt hi h1)]; exact h2, h3⟩

theorem evCall_ok {ih : Rec} (hF : F.ok P) (hih : RecOK P ih) {g : FuncId} {args : List Value} {v : Value} {t' : Tr} {n' : Nat} (h : evCall F ih g args t n = .ok (v, t', n')) :
    n ≤ n' ∧ ∀ σ w args' c rest, LR σ args args' → Holds σ t.mem w → Fresh σ n n' →
      ∃ σ' w' v', Ext t.mem n n' σ σ' t'.mem w w' ∧ VR σ' v v' ∧ Steps P (lone (Frame.enter P g args'.toArray .normal) (c :: rest) w) (lone (c.finish v') rest w') := by
  unfold evCall at h
  split at h
  case h_2 => cases h
  rename_i row hrow
  split at h
  case h_2 => cases h
  rename_i hov
  cases hsure : (row.sure && args.isEmpty) with
  | true =>
    rw [hsure, cond_true] at h
    cases h
    simp only [Bool.and_eq_true, List.isEmpty_iff] at hsure
    obtain ⟨hs1, hs2⟩ := hsure
    subst hs2
    refine ⟨Nat.le_refl _, fun σ w args' c rest hargs H hf => ?_⟩
    have ha : args' = [] := by
      have := hargs.1
      cases args' with
      | nil => rfl
      | cons a l => simp at this
    subst ha
    obtain ⟨e, w', fr, ⟨he, hB⟩, hs, hfn, hlv⟩ := hF.sure g row hrow hs1 w (c :: rest)
    subst he
    exact ⟨σ, w', .bool true, Ext.below H hB, .bool true, hs.trans (.one (step_leave_returned hlv))⟩
  | false =>
  rw [hsure, cond_false] at h
  obtain ⟨hle, hrun⟩ := hih _ _ _ _ _ _ _ _ _ _ h
  refine ⟨hle, fun σ w args' c rest hargs H hf => ?_⟩
  obtain ⟨fn, g1, g2, g3, g4, g5⟩ := hF.code g row hrow hov
  have hfr : FrR σ (Frame.enter P g args'.toArray .normal) g none (args ++ List.replicate (row.ntmps - args.length) undef) [.code row.body] [] := by
    refine ⟨rfl, rfl, rfl, ?_, ?_, .nil, rfl⟩
    · simp only [Frame.enter, g1, Option.map_some, Option.getD_some, g3]
      rw [hargs.1]
      have := hargs.append (LR.rep (σ := σ) (row.ntmps - args'.length))
      simpa using this
    · simp [Frame.enter, g1, g2]
  obtain ⟨σ', w', v', e1, e2, e3⟩ := hrun σ w _ (c :: rest) hfr H hf
  obtain ⟨fr', s1, s2, s3⟩ := e3
  exact ⟨σ', w', v', e1, e2, s1.trans (.one (step_leave_returned s3))⟩

/-- A value whose addresses are such reads so under other names for the rest. -/
theorem VR.move {τ : Sg} {ok : Nat → Bool} {σ : Sg} : ∀ (f : Nat) (v v' : Value), idsOK ok f v = true → VR σ v v' → (∀ i p, ok i = true → σ i = some p → τ i = some p) → VR τ v v' := by
  intro f
  induction f with
  | zero =>
    intro v v' h hr hm
    cases hr with
    | bool b => exact .bool b
    | int k n => exact .int k n
    | string s => exact .string s
    | ptr0 => exact .ptr0
    | ptr b o p hp => exact .ptr b o p (hm _ _ (by simpa [idsOK] using h) hp)
    | sl0 n c => exact .sl0 n c
    | sl b o n c c' p hp hcc hl => exact .sl b o n c c' p (hm _ _ (by simpa [idsOK] using h) hp) hcc hl
    | map0 => exact .map0
    | map r p hp => exact .map r p (hm _ _ (by simpa [idsOK] using h) hp)
    | nilFunc => exact .nilFunc
    | nilIface => exact .nilIface
    | func g cs cs' hs hv => simp [idsOK] at h
    | yield l p hp => simp [idsOK] at h
    | least c c' hcc => simp [idsOK] at h
    | varI k j n h0 => exact .varI k j n h0
    | varS k s h0 => exact .varS k s h0
    | varP k a h0 => exact .varP k a h0
    | varL k a n c h0 => exact .varL k a n c h0
    | glob g => exact .glob g
    | empty k a c => exact .empty k a c
    | iface t v v' hv => simp [idsOK] at h
    | agg cs cs' hs hv => simp [idsOK] at h
    | tuple cs cs' hs hv => simp [idsOK] at h
  | succ f ih =>
    intro v v' h hr hm
    cases hr with
    | bool b => exact .bool b
    | int k n => exact .int k n
    | string s => exact .string s
    | ptr0 => exact .ptr0
    | ptr b o p hp => exact .ptr b o p (hm _ _ (by simpa [idsOK] using h) hp)
    | sl0 n c => exact .sl0 n c
    | sl b o n c c' p hp hcc hl => exact .sl b o n c c' p (hm _ _ (by simpa [idsOK] using h) hp) hcc hl
    | map0 => exact .map0
    | map r p hp => exact .map r p (hm _ _ (by simpa [idsOK] using h) hp)
    | nilFunc => exact .nilFunc
    | nilIface => exact .nilIface
    | func g cs cs' hs hv =>
      simp only [idsOK, List.all_eq_true] at h
      exact .func g cs cs' hs fun i a b => ih _ _ (h _ (by simp)) (hv i a b) hm
    | yield l p hp => simp [idsOK] at h
    | least c c' hcc => simp [idsOK] at h
    | varI k j n h0 => exact .varI k j n h0
    | varS k s h0 => exact .varS k s h0
    | varP k a h0 => exact .varP k a h0
    | varL k a n c h0 => exact .varL k a n c h0
    | glob g => exact .glob g
    | empty k a c => exact .empty k a c
    | iface t v v' hv => exact .iface t v v' (ih _ _ (by simpa [idsOK] using h) hv hm)
    | agg cs cs' hs hv =>
      simp only [idsOK, List.all_eq_true] at h
      exact .agg cs cs' hs fun i a b => ih _ _ (h _ (by simp)) (hv i a b) hm
    | tuple cs cs' hs hv =>
      simp only [idsOK, List.all_eq_true] at h
      exact .tuple cs cs' hs fun i a b => ih _ _ (h _ (by simp)) (hv i a b) hm

theorem OR.cellsMove {τ : Sg} {ok : Nat → Bool} {c : List Value} {e : TypeId} {es es2 : Nat} {p q : Pl} {x : Obj} (h : OR σ (.cells c e es) p x) (hok : c.all (idsOK ok 6) = true) (hm : ∀ i p, ok i = true → σ i = some p → τ i = some p)
    (hb : q.base = p.base) (ha : q.avail = p.avail) (he : q.es = es2) : OR τ (.cells c e es2) q x := by
  cases h with
  | cells c e es p arr fz hs hl he' hc hf =>
    refine .cells c e es2 q arr fz (by rw [hb, ha]; exact hs) (by rw [ha]; exact hl) he (fun i y hy => ?_) hf
    obtain ⟨z, hz, hr⟩ := hc i y hy
    exact ⟨z, by rw [hb]; exact hz, VR.move 6 _ _ (List.all_eq_true.1 hok _ (List.mem_of_getElem? hy)) hr hm⟩

theorem listSame_ok : ∀ {xs ys : List Value}, listSame xs ys = true → xs = ys
  | [], [], _ => rfl
  | x :: xs, y :: ys, h => by
    simp only [listSame, Bool.and_eq_true] at h
    rw [sameV_ok h.1, listSame_ok h.2]
  | [], _ :: _, h => by simp [listSame] at h
  | _ :: _, [], h => by simp [listSame] at h

/-- What is taken out of a part of a run that knew two blocks alone: one block, under a new name. -/
theorem Ext.take {g h h' : Mem} {σA τ : Sg} {N m : Nat} {b bv : Nat} {p pv q : Pl} {o : VO} {x : Obj} {w1 : World} (H : Holds σ g w) (hb : ∃ y, g b = some y) (hbv : ∃ y, g bv = some y) (hpb : σ b = some p) (hpv : σ bv = some pv)
    (hdom : ∀ i y, h i = some y → i = b ∨ i = bv) (hA : ∀ i r, σA i = some r → ∃ s, σ i = some s ∧ s.blk = r.blk) (e : Ext h n m σA τ h' w w1)
    (hn : n ≤ N) (hN : σ N = none) (hq : w.heap.size ≤ q.blk ∨ q.blk = p.blk ∨ q.blk = pv.blk) (hx : w1.heap[q.blk]? = some x) (hor : OR (σ.put N q) o q x) :
    Ext g n (N + 1) σ (σ.put N q) (fun j => if j = N then some o else if j = b ∨ j = bv then none else g j) w w1 := by
  obtain ⟨yb, hyb⟩ := hb
  obtain ⟨yv, hyv⟩ := hbv
  have hplt := H.lt hyb hpb
  have hpvlt := H.lt hyv hpv
  have stay : ∀ i y r, g i = some y → σ i = some r → i ≠ b → i ≠ bv → w1.heap[r.blk]? = w.heap[r.blk]? := by
    intro i y r hi hr hib hibv
    refine e.frame r.blk (H.lt hi hr) fun j z s hj hs hblk => ?_
    obtain ⟨s', hs', he'⟩ := hA j s hs
    rcases hdom j z hj with rfl | rfl
    · rw [hpb] at hs'; cases hs'
      exact hib (H.inj i j _ _ _ _ hi hyb hr hpb (hblk.symm.trans he'.symm))
    · rw [hpv] at hs'; cases hs'
      exact hibv (H.inj i j _ _ _ _ hi hyv hr hpv (hblk.symm.trans he'.symm))
  have apart : ∀ i y r, g i = some y → σ i = some r → i ≠ b → i ≠ bv → r.blk ≠ q.blk := by
    intro i y r hi hr hib hibv heq
    have hlt := H.lt hi hr
    rcases hq with h1 | h1 | h1
    · omega
    · exact hib (H.inj i b _ _ _ _ hi hyb hr hpb (heq.trans h1))
    · exact hibv (H.inj i bv _ _ _ _ hi hyv hr hpv (heq.trans h1))
  have hle : Sg.le σ (σ.put N q) := Sg.put_le hN
  have old : ∀ i y, (if i = N then some o else if i = b ∨ i = bv then none else g i) = some y → i ≠ N → g i = some y ∧ i ≠ b ∧ i ≠ bv := by
    intro i y hi hne
    rw [if_neg hne] at hi
    by_cases hc : i = b ∨ i = bv
    · rw [if_pos hc] at hi; cases hi
    · rw [if_neg hc] at hi
      exact ⟨hi, fun h => hc (.inl h), fun h => hc (.inr h)⟩
  have get : ∀ i r, (σ.put N q) i = some r → i ≠ N → σ i = some r := by
    intro i r hr hne
    unfold Sg.put at hr
    rw [if_neg hne] at hr
    exact hr
  have hroq : Vars.ro q.blk = none := by
    rcases hq with h1 | h1 | h1
    · exact H.roNew h1
    · rw [h1]; exact H.apart b yb p hyb hpb
    · rw [h1]; exact H.apart bv yv pv hyv hpv
  refine ⟨by omega, hle, fun i r hr => ?_, ⟨fun i y hi => ?_, fun i j y z r s hi hj hr hs hbl => ?_, e.holds.ro, fun i y r hi hr => ?_⟩, e.os, e.tape, e.output, e.size, fun k hk hno => ?_, fun i y hi => ?_, fun i y r hi hr => ?_⟩
  rotate_left 3
  · by_cases hne : i = N
    · rw [hne, Sg.put_same] at hr; cases hr; exact hroq
    · obtain ⟨h1, _, _⟩ := old i y hi hne
      exact H.apart i y r h1 (get i r hr hne)
  rotate_left 3
  · by_cases hne : i = N
    · exact .inr ⟨by omega, by omega⟩
    · exact .inl (get i r hr hne)
  · by_cases hne : i = N
    · subst hne
      rw [if_pos rfl] at hi
      cases hi
      exact ⟨q, x, Sg.put_same, hx, hor⟩
    · obtain ⟨h1, h2, h3⟩ := old i y hi hne
      obtain ⟨r, z, g1, g2, g3⟩ := H.lies i y h1
      exact ⟨r, z, hle _ _ g1, by rw [stay i y r h1 g1 h2 h3, g2], g3.mono hle⟩
  · by_cases hiN : i = N <;> by_cases hjN : j = N
    · omega
    · obtain ⟨h1, h2, h3⟩ := old j z hj hjN
      have hs' := get j s hs hjN
      rw [hiN, Sg.put_same] at hr
      cases hr
      exact absurd hbl.symm (apart j z s h1 hs' h2 h3)
    · obtain ⟨h1, h2, h3⟩ := old i y hi hiN
      have hr' := get i r hr hiN
      rw [hjN, Sg.put_same] at hs
      cases hs
      exact absurd hbl (apart i y r h1 hr' h2 h3)
    · obtain ⟨h1, _, _⟩ := old i y hi hiN
      obtain ⟨h2, _, _⟩ := old j z hj hjN
      exact H.inj i j _ _ _ _ h1 h2 (get i r hr hiN) (get j s hs hjN) hbl
  · refine e.frame k hk fun j z s hj hs hblk => ?_
    obtain ⟨s', hs', he'⟩ := hA j s hs
    rcases hdom j z hj with rfl | rfl
    · exact hno j yb s' hyb hs' (he'.trans hblk)
    · exact hno j yv s' hyv hs' (he'.trans hblk)
  · by_cases hne : i = N
    · exact .inr ⟨by omega, by omega⟩
    · exact .inl ⟨y, (old i y hi hne).1⟩
  · by_cases hne : i = N
    · rw [hne, Sg.put_same] at hr
      cases hr
      rcases hq with h1 | h1 | h1
      · exact .inl h1
      · exact .inr ⟨b, yb, p, hyb, hpb, h1.symm⟩
      · exact .inr ⟨bv, yv, pv, hyv, hpv, h1.symm⟩
    · exact .inr ⟨i, y, r, (old i y hi hne).1, get i r hr hne, rfl⟩

theorem chk_ok {n : Nat} {x : Out} {v : Value} {t : Tr} {m : Nat} (h : chk n x = .ok (v, t, m)) : x = .ok (v, t, m) ∧ n ≤ m := by
  unfold chk at h
  split at h
  case h_2 => cases h
  rename_i v2 t2 m2
  cases hle : Nat.ble n m2 with
  | false => rw [hle] at h; cases h
  | true =>
    rw [hle, cond_true] at h
    cases h
    exact ⟨rfl, Nat.le_of_ble_eq_true hle⟩

set_option maxHeartbeats 2000000 in
theorem evIns_ok {ih : Rec} (hF : F.ok P) (hih : RecOK P ih) {g : FuncId} {args : List Value} {v : Value} {t' : Tr} {n' : Nat} (h : evIns F ih g args t n = .ok (v, t', n')) :
    n ≤ n' ∧ ∀ σ w args' c rest, LR σ args args' → Holds σ t.mem w → Fresh σ n n' →
      ∃ σ' w' v', Ext t.mem n n' σ σ' t'.mem w w' ∧ VR σ' v v' ∧ Steps P (lone (Frame.enter P g args'.toArray .normal) (c :: rest) w) (lone (c.finish v') rest w') := by
  unfold evIns at h
  split at h
  case h_2 => exact evCall_ok hF hih h
  rename_i b o k c i bv ov kv cv
  split at h
  case h_2 => exact evCall_ok hF hih h
  rename_i cs e es vs ve ves hb hbv
  cases hc1 : (Nat.beq k c && Nat.beq (o + k * (es + 1)) cs.length && !(Nat.beq b bv) && Nat.blt b n && Nat.blt bv n && cs.all (idsOK (fun j => Nat.blt j n && !(Nat.beq j b)) 6) && vs.all (idsOK (fun j => Nat.blt j n && !(Nat.beq j b)) 6) && plain 1 i && Nat.blt b top && Nat.blt bv top) with
  | false => rw [hc1] at h; cases h
  | true =>
  rw [hc1, cond_true] at h
  split at h
  case h_2 => cases h
  case h_3 => cases h
  case h_4 => cases h
  rename_i j jo k1 c1 t1 n1 b2 o2 k2 c2 t2 n2 hA hB
  split at h
  case h_2 => cases h
  rename_i d1 e1 es1 d2 e2 es2 hj hb2
  cases hc2 : (Nat.ble n j && Nat.beq jo 0 && Nat.beq k1 (k + 1) && Nat.beq k2 (k + 1) && Nat.beq b2 b && Nat.beq o2 o && Nat.beq e1 e && Nat.beq e2 e && Nat.beq es1 (es + 1) && Nat.beq es2 (es + 1) && Nat.ble (k + 1) c1 && Nat.ble (k + 1) c2 &&
                Nat.beq d1.length ((k + 1) * (es + 1)) && Nat.ble o d2.length && listSame d1 (d2.drop o) && d1.all (idsOK (fun j => Nat.blt j n && !(Nat.beq j b)) 6) && Nat.blt (Nat.max n1 n2) top) with
  | false => rw [hc2] at h; cases h
  | true =>
  rw [hc2, cond_true] at h
  cases h
  simp only [Bool.and_eq_true, Bool.not_eq_true'] at hc1 hc2
  obtain ⟨⟨⟨⟨⟨⟨⟨⟨⟨a1, a2⟩, a3⟩, a4⟩, a5⟩, a6⟩, a7⟩, a8⟩, a9⟩, a10⟩ := hc1
  obtain ⟨⟨⟨⟨⟨⟨⟨⟨⟨⟨⟨⟨⟨⟨⟨⟨b1, b2'⟩, b3⟩, b4⟩, b5⟩, b6⟩, b7⟩, b8⟩, b9⟩, b10⟩, b11⟩, b12⟩, b13⟩, b14⟩, b15⟩, b16⟩, b17⟩ := hc2
  have a1 := Nat.eq_of_beq_eq_true a1
  have a2 := Nat.eq_of_beq_eq_true a2
  have a3 : b ≠ bv := fun h => by rw [beqT h] at a3; cases a3
  have a4 : b < n := Nat.le_of_ble_eq_true a4
  have a5 : bv < n := Nat.le_of_ble_eq_true a5
  have a9 : b < top := Nat.le_of_ble_eq_true a9
  have a10 : bv < top := Nat.le_of_ble_eq_true a10
  have b1 := Nat.le_of_ble_eq_true b1
  have b2' := Nat.eq_of_beq_eq_true b2'
  have b3 := Nat.eq_of_beq_eq_true b3
  have b4 := Nat.eq_of_beq_eq_true b4
  have b5 := Nat.eq_of_beq_eq_true b5
  have b6 := Nat.eq_of_beq_eq_true b6
  have b7 := Nat.eq_of_beq_eq_true b7
  have b8 := Nat.eq_of_beq_eq_true b8
  have b9 := Nat.eq_of_beq_eq_true b9
  have b10 := Nat.eq_of_beq_eq_true b10
  have b11 := Nat.le_of_ble_eq_true b11
  have b12 := Nat.le_of_ble_eq_true b12
  have b14 := Nat.le_of_ble_eq_true b14
  have b15 := listSame_ok b15
  have b17 : Nat.max n1 n2 < top := Nat.le_of_ble_eq_true b17
  subst a1; subst b2'; subst b3; subst b4; subst b5; subst b6; subst b7; subst b8; subst b9; subst b10
  obtain ⟨hA, hnA⟩ := chk_ok hA
  obtain ⟨hB, hnB⟩ := chk_ok hB
  have hmax1 : n1 ≤ Nat.max n1 n2 := Nat.le_max_left _ _
  have hmax2 : n2 ≤ Nat.max n1 n2 := Nat.le_max_right _ _
  refine ⟨by omega, fun σ w args' cfr rest hargs H hf => ?_⟩
  have hmemR : (Tr.set 24 (Tr.set 24 (Tr.set 24 t b2 none) bv none) (Nat.max n1 n2) (some (.cells d1 e2 (es + 1)))).mem = fun j => if j = Nat.max n1 n2 then some (.cells d1 e2 (es + 1)) else if j = b2 ∨ j = bv then none else t.mem j := by
    rw [Tr.mem_set b17, Tr.mem_set a10, Tr.mem_set a9]
    funext j
    by_cases h1 : j = Nat.max n1 n2
    · rw [if_pos h1, if_pos h1]
    · rw [if_neg h1, if_neg h1]
      dsimp only
      by_cases h2 : j = bv
      · rw [if_pos h2, if_pos (.inr h2)]
      · rw [if_neg h2]
        by_cases h3 : j = b2
        · rw [if_pos h3, if_pos (.inl h3)]
        · rw [if_neg h3, if_neg (by rintro (h | h); exact h3 h; exact h2 h)]
  have hnil : (Tr.nil).mem = fun _ => none := by funext j; simp [Tr.mem, Tr.get]
  have hN : σ (Nat.max n1 n2) = none := hf _ (by omega) (by omega)
  obtain ⟨s', i', v', rfl⟩ : ∃ s' i' v', args' = [s', i', v'] := by
    match args', hargs.1 with
    | [a, b, c], _ => exact ⟨a, b, c, rfl⟩
  have hs := hargs.head
  have hi := hargs.tail.head
  have hv := hargs.tail.tail.head
  cases hs with
  | sl b2 o2 k c c' p hp hcc hll =>
  cases hv with
  | sl bv ov kv cv cv' pv hpv hccv hllv =>
  obtain ⟨p0, arr, fz, q1, q2, q3, q4, q5, q6, q7⟩ := H.cells hb
  rw [hp] at q1; cases q1
  obtain ⟨hpes, hlies⟩ : 0 < p.es ∧ o2 + c' * p.es ≤ p.avail := by
    rcases hll with h | h
    · omega
    · exact h
  have hie := plain_eq 1 _ _ a8 hi
  subst hie
  have hiτ : ∀ τ, VR τ i' i' := fun τ => plain_rel 1 _ a8
  obtain ⟨pb, xb, hb1, hb2', hb3⟩ := H.lies b2 _ hb
  rw [hp] at hb1; cases hb1
  obtain ⟨pv', xv, hv1, hv2, hv3⟩ := H.lies bv _ hbv
  rw [hpv] at hv1; cases hv1
  have hdomOf : ∀ (x y : VO) (i : Nat) (z : VO), (Tr.set 24 (Tr.set 24 .nil b2 (some x)) bv (some y)).mem i = some z → i = b2 ∨ i = bv := by
    intro x y i z hz
    rw [Tr.mem_set a10, Tr.mem_set a9, hnil] at hz
    dsimp only at hz
    by_cases h1 : i = bv
    · exact .inr h1
    · rw [if_neg h1] at hz
      by_cases h2 : i = b2
      · exact .inl h2
      · rw [if_neg h2] at hz; cases hz
  have hgetOf : ∀ (x y : VO), (Tr.set 24 (Tr.set 24 .nil b2 (some x)) bv (some y)).mem b2 = some x ∧ (Tr.set 24 (Tr.set 24 .nil b2 (some x)) bv (some y)).mem bv = some y := by
    intro x y
    rw [Tr.mem_set a10, Tr.mem_set a9, hnil]
    dsimp only
    exact ⟨by rw [if_neg a3, if_pos rfl], by rw [if_pos rfl]⟩
  rcases Nat.lt_or_ge k c' with hroom | hroom
  · -- there is room
    obtain ⟨_, hcall⟩ := evCall_ok hF hih hB
    have HB : Holds σ (Tr.set 24 (Tr.set 24 .nil b2 (some (.cells cs e2 (es + 1)))) bv (some (.cells vs ve ves))).mem w := by
      refine H.part fun i z hz => ?_
      have g := hgetOf (.cells cs e2 (es + 1)) (.cells vs ve ves)
      rcases hdomOf _ _ i z hz with rfl | rfl
      · rw [g.1] at hz; cases hz; exact hb
      · rw [g.2] at hz; cases hz; exact hbv
    obtain ⟨σ1, w1, v1', f1, f2, f3⟩ := hcall σ w [.slice (some ⟨p.blk, p.base + o2, none⟩) k c', i', .slice (some ⟨pv.blk, pv.base + ov, none⟩) kv cv'] cfr rest
      (LR.cons (.sl b2 o2 k (k + 1) c' p hp (by omega) (.inr ⟨hpes, hlies⟩)) (LR.cons (hiτ σ) (LR.cons (.sl bv ov kv cv cv' pv hpv hccv hllv) LR.nil))) HB (hf.part (Nat.le_refl _) (by omega))
    cases f2 with
    | sl b2 o2 k2 c2 c2' p2 hp2 hcc2 hll2 =>
    have hp2e : p2 = p := by have := f1.more _ _ hp; rw [hp2] at this; injection this
    subst hp2e
    obtain ⟨r, arr2, fz2, r1, r2, r3, r4, r5, r6, r7⟩ := f1.holds.cells hb2
    rw [hp2] at r1; cases r1
    have hlies2 : o2 + c2' * p2.es ≤ p2.avail := by
      rcases hll2 with h | h
      · omega
      · exact h.2
    have hmv : ∀ i p, (Nat.blt i n && !(Nat.beq i b2)) = true → σ1 i = some p → (σ.put (Nat.max n1 n2) ⟨p2.blk, p2.base + o2, p2.avail - o2, p2.es⟩) i = some p := by
      intro i q hok hq
      simp only [Bool.and_eq_true] at hok
      have hlt : i < n := Nat.le_of_ble_eq_true hok.1
      rcases f1.off i q hq with h | h
      · exact Sg.put_le hN _ _ h
      · omega
    have hor : OR (σ.put (Nat.max n1 n2) ⟨p2.blk, p2.base + o2, p2.avail - o2, p2.es⟩) (.cells d1 e2 (es + 1)) ⟨p2.blk, p2.base + o2, p2.avail - o2, p2.es⟩ (.cells arr2 e2 fz2) := by
      refine .cells d1 e2 (es + 1) _ arr2 fz2 (by dsimp only; omega) (by rw [b15]; dsimp only; simp; omega) q5 (fun i y hy => ?_) r7
      have hy2 : d2[o2 + i]? = some y := by rw [b15, List.getElem?_drop] at hy; exact hy
      obtain ⟨z, hz, hr⟩ := r6 _ _ hy2
      refine ⟨z, by dsimp only; rw [Nat.add_assoc]; exact hz, VR.move 6 _ _ (List.all_eq_true.1 b16 _ (List.mem_of_getElem? hy)) hr hmv⟩
    have e3 := Ext.take (N := Nat.max n1 n2) (q := ⟨p2.blk, p2.base + o2, p2.avail - o2, p2.es⟩) H ⟨_, hb⟩ ⟨_, hbv⟩ hp hpv (hdomOf _ _) (fun i r hr => ⟨r, hr, rfl⟩) f1 (by omega) hN (.inr (.inl rfl)) r2 hor
    refine ⟨_, w1, _, by rw [hmemR]; exact e3, ?_, f3⟩
    have := VR.sl (σ := σ.put (Nat.max n1 n2) ⟨p2.blk, p2.base + o2, p2.avail - o2, p2.es⟩) (Nat.max n1 n2) 0 (k + 1) (k + 1) c2' _ Sg.put_same (by omega) (.inr ⟨hpes, by simp only [Nat.zero_add]; omega⟩)
    simpa using this
  · -- there is none
    have hce : c' = k := by omega
    subst hce
    obtain ⟨_, hcall⟩ := evCall_ok hF hih hA
    have hmvA : ∀ i q, (Nat.blt i n && !(Nat.beq i b2)) = true → σ i = some q → (fun j => if j = b2 then some (⟨p.blk, p.base, p.avail, 0⟩ : Pl) else σ j) i = some q := by
      intro i q hok hq
      simp only [Bool.and_eq_true, Bool.not_eq_true'] at hok
      have hne : i ≠ b2 := fun h => by rw [beqT h] at hok; exact absurd hok.2 (by simp)
      dsimp only
      rw [if_neg hne]; exact hq
    have HA : Holds (fun j => if j = b2 then some (⟨p.blk, p.base, p.avail, 0⟩ : Pl) else σ j) (Tr.set 24 (Tr.set 24 .nil b2 (some (.cells cs e2 0))) bv (some (.cells vs ve ves))).mem w := by
      have g := hgetOf (.cells cs e2 0) (.cells vs ve ves)
      refine ⟨fun i z hz => ?_, fun i j y z r s hi hj hr hs hbl => ?_, H.ro, fun i z r hz hr => ?_⟩
      rotate_left 2
      · rcases hdomOf _ _ i z hz with rfl | rfl
        · simp at hr; subst hr; exact H.apart _ _ p hb hp
        · simp [Ne.symm a3, hpv] at hr; subst hr; exact H.apart _ _ pv hbv hpv
      · rcases hdomOf _ _ i z hz with rfl | rfl
        · rw [g.1] at hz; cases hz
          exact ⟨⟨p.blk, p.base, p.avail, 0⟩, xb, by simp, hb2', hb3.cellsMove a6 hmvA rfl rfl rfl⟩
        · rw [g.2] at hz; cases hz
          refine ⟨pv, xv, by simp [Ne.symm a3, hpv], hv2, ?_⟩
          have hes : pv.es = ves := by cases hv3; assumption
          exact hv3.cellsMove a7 hmvA rfl rfl hes
      · have hinj := H.inj b2 bv _ _ _ _ hb hbv hp hpv
        rcases hdomOf _ _ i y hi with rfl | rfl <;> rcases hdomOf _ _ j z hj with rfl | rfl
        · rfl
        · simp at hr; simp [Ne.symm a3, hpv] at hs
          subst hr; subst hs
          exact hinj hbl
        · simp at hs; simp [Ne.symm a3, hpv] at hr
          subst hr; subst hs
          exact (hinj hbl.symm).symm
        · rfl
    have hfA : Fresh (fun j => if j = b2 then some (⟨p.blk, p.base, p.avail, 0⟩ : Pl) else σ j) n n1 := by
      intro i h1 h2
      dsimp only
      rw [if_neg (by omega)]
      exact hf i h1 (by omega)
    obtain ⟨σ1, w1, v1', f1, f2, f3⟩ := hcall _ w [.slice (some ⟨p.blk, p.base + o2, none⟩) c' c', i', .slice (some ⟨pv.blk, pv.base + ov, none⟩) kv cv'] cfr rest
      (LR.cons (.sl b2 o2 c' c' c' ⟨p.blk, p.base, p.avail, 0⟩ (by simp) (Nat.le_refl _) (.inl ⟨rfl, rfl⟩)) (LR.cons (hiτ _) (LR.cons (.sl bv ov kv cv cv' pv (by simp [Ne.symm a3, hpv]) hccv hllv) LR.nil))) HA hfA
    cases f2 with
    | sl j jo k1 c1 c1' q hq hcc1 hll1 =>
    obtain ⟨r, arr1, fz1, r1, r2, r3, r4, r5, r6, r7⟩ := f1.holds.cells hj
    rw [hq] at r1; cases r1
    obtain ⟨hqes, hlies1⟩ : 0 < q.es ∧ 0 + c1' * q.es ≤ q.avail := by
      rcases hll1 with h | h
      · omega
      · exact h
    have hmv : ∀ i s, (Nat.blt i n && !(Nat.beq i b2)) = true → σ1 i = some s → (σ.put (Nat.max n1 n2) q) i = some s := by
      intro i s hok hs
      simp only [Bool.and_eq_true, Bool.not_eq_true'] at hok
      have hlt : i < n := Nat.le_of_ble_eq_true hok.1
      have hne : i ≠ b2 := fun h => by rw [beqT h] at hok; exact absurd hok.2 (by simp)
      rcases f1.off i s hs with h | h
      · rw [if_neg hne] at h
        exact Sg.put_le hN _ _ h
      · omega
    have hor : OR (σ.put (Nat.max n1 n2) q) (.cells d1 e2 (es + 1)) q (.cells arr1 e2 fz1) := by
      refine .cells d1 e2 (es + 1) _ arr1 fz1 r3 r4 r5 (fun i y hy => ?_) r7
      obtain ⟨z, hz, hr⟩ := r6 _ _ hy
      exact ⟨z, hz, VR.move 6 _ _ (List.all_eq_true.1 b16 _ (List.mem_of_getElem? hy)) hr hmv⟩
    have hplace : w.heap.size ≤ q.blk ∨ q.blk = p.blk ∨ q.blk = pv.blk := by
      rcases f1.place j _ q hj hq with h | ⟨j2, o3, s, h1, h2, h3⟩
      · exact .inl h
      · rcases hdomOf _ _ j2 o3 h1 with rfl | rfl
        · simp at h2
          subst h2
          exact .inr (.inl h3.symm)
        · simp [Ne.symm a3, hpv] at h2
          subst h2
          exact .inr (.inr h3.symm)
    have e3 := Ext.take (N := Nat.max n1 n2) (q := q) H ⟨_, hb⟩ ⟨_, hbv⟩ hp hpv (hdomOf _ _) (fun i r hr => by
        by_cases hib : i = b2
        · rw [if_pos hib] at hr
          cases hr
          exact ⟨p, by rw [hib]; exact hp, rfl⟩
        · rw [if_neg hib] at hr
          exact ⟨r, hr, rfl⟩) f1 (by omega) hN hplace r2 hor
    refine ⟨_, w1, _, by rw [hmemR]; exact e3, ?_, f3⟩
    exact VR.sl (Nat.max n1 n2) 0 (c' + 1) (c' + 1) c1' q Sg.put_same (by omega) (.inr ⟨hqes, hlies1⟩)

theorem st_op_round {ops : Array Oper} {i : Nat} {rest : List Nat} {o : Oper} {l : Nat} {f : FuncId} {tmps : Array Value} {assign body : Code} (hm : fr.mode = .run) (ht : fr.todo = .inRegion ops (i :: rest) :: k) (ho : ops[i]? = some o) (hw : Region.wanted o (yielded ops fr.tmps) = true) (hd : ∀ c, o.op ≠ .defer c)
    (hr : (execOp fr.eval o).run P w = .ok (.round l f tmps assign body) w') :
    step P (lone fr cs w) = .next (lone (Frame.round l f tmps assign body .normal) (fr :: cs) w') := by
  refine step_lone_go ?_
  rw [stepG_oper hm ht ho hw hd]
  simp [stepG.apply, hr, ht]

theorem getObj_run {r : Nat} {o : Obj} (h : w.heap[r]? = some o) (hn : ∀ c e f, o ≠ .cells c e f) : (getObj r).run P w = .ok o w := by
  simp only [getObj, Sem.run, h]
theorem setObj_run {r : Nat} {o o' : Obj} (h : w.heap[r]? = some o) (hn : ∀ c e f, o ≠ .cells c e f) : (setObj r o').run P w = .ok () { w with heap := w.heap.setIfInBounds r o' } := by
  simp only [setObj, Sem.run, h]

/-- A block that is no row is set. -/
theorem Holds.loop {h : Mem} (H : Holds σ h w) {l : Nat} {lp : Loop} (hl : h l = some (.loop lp)) :
    ∃ p d lp', σ l = some p ∧ w.heap[p.blk]? = some (.loop lp') ∧ lp'.state = lp.state ∧ lp'.pending = lp.pending ∧ lp'.fn = lp.fn ∧ LR σ lp.tmps.toList lp'.tmps.toList ∧ lp'.params = lp.params ∧
      lp'.assign = lp.assign ∧ lp'.body = lp.body ∧ σ lp.defers = some d ∧ lp'.defers = d.blk := by
  obtain ⟨p, x, h1, h2, h3⟩ := H.lies l _ hl
  cases h3 with
  | loop l l' p d a1 a2 a3 a4 a5 a6 a7 a8 a9 => exact ⟨p, d, l', h1, h2, a1, a2, a3, a4, a5, a6, a7, a8, a9⟩

/-- What an operation comes to, in the frame in which it stands. -/
theorem evOp_ok {ih : Rec} (hF : F.ok P) (hih : RecOK P ih) {o : Oper} {v : Value} {t' : Tr} {n' : Nat} {r : Env} (h : evOp P F ih r o t n = .ok (v, t', n'))
    {ops : Array Oper} {i : Nat} {rest : List Nat} (hm : fr.mode = .run) (hr : r.ok σ fr.eval) (ht : fr.todo = .inRegion ops (i :: rest) :: k) (ho : ops[i]? = some o) (hw : Region.wanted o (yielded ops fr.tmps) = true)
    (H : Holds σ t.mem w) (hf : Fresh σ n n') :
    ∃ σ' w' v', Ext t.mem n n' σ σ' t'.mem w w' ∧ VR σ' v v' ∧ Steps P (lone fr cs w) (lone (fr.finish v') cs w') := by
  have hnd : ∀ c, o.op ≠ .defer c := by
    intro c hc
    unfold evOp ev1 at h
    rw [hc] at h
    simp [evSame, evSame0, factV, numOp, hc, evYield] at h
  unfold evOp at h
  split at h
  · rename_i v1 t1 n1 h1
    cases h
    obtain ⟨σ', w', v', e1, e2, e3⟩ := ev1_ok hF H hr h1 hf
    exact ⟨σ', w', v', e1, e2, .one (st_op_value hm ht ho hw hnd e3)⟩
  · rename_i g args h1
    obtain ⟨args', e1, e2⟩ := ev1_ok hF H hr h1
    split at h
    case h_2 => cases h
    rename_i row hrow
    cases hins : row.ins with
    | true =>
      rw [hins, cond_true] at h
      obtain ⟨_, hc⟩ := evIns_ok hF hih h
      obtain ⟨σ', w', v', f1, f2, f3⟩ := hc σ w args' fr cs e1 H hf
      exact ⟨σ', w', v', f1, f2, .head (st_op_enter hm ht ho hw hnd e2) f3⟩
    | false =>
      rw [hins, cond_false] at h
      obtain ⟨_, hc⟩ := evCall_ok hF hih h
      obtain ⟨σ', w', v', f1, f2, f3⟩ := hc σ w args' fr cs e1 H hf
      exact ⟨σ', w', v', f1, f2, .head (st_op_enter hm ht ho hw hnd e2) f3⟩
  · unfold evYield at h
    split at h
    case h_2 => cases h
    rename_i c hop
    split at h
    case h_2 => cases h
    rename_i f hcal
    split at h
    case h_2 => cases h
    rename_i l first caps args hfv hargs
    split at h
    case h_2 => cases h
    rename_i lp hlp
    cases hb : Nat.beq args.length lp.params.toList.length with
    | false => rw [hb] at h; cases h
    | true =>
      rw [hb, cond_true] at h
      have hb := Nat.eq_of_beq_eq_true hb
      obtain ⟨p, d, lp', a0, a0', a1, a2, a3, a4, a5, a6, a7, a8, a9⟩ := H.loop hlp
      have hfr := hr _ _ hfv
      generalize hgf : fr.eval f = fv at hfr
      cases hfr with
      | yield l q hq =>
      rw [a0] at hq; cases hq
      have hal : LR σ args (c.args.map fr.eval).toList := by simpa using envAll_ok hr _ _ hargs
      have hsz : (c.args.map fr.eval).size = lp'.params.size := by
        have := hal.1
        rw [a5]
        simp only [Array.length_toList] at this hb
        omega
      have hrun : (execOp fr.eval o).run P w = .ok (.round p.blk lp'.fn ((lp'.params.zip (c.args.map fr.eval)).foldl (fun tmps (x : Tmp × Value) => tmps.setIfInBounds x.1 x.2) lp'.tmps) lp'.assign lp'.body) w := by
        have hgo : (Instr.getLoop p.blk).run P w = .ok lp' w := by
          simp only [Instr.getLoop, Sem.run_bind, getObj_run (P := P) a0' (by intro c e f h; cases h), Result.andThen_ok, Sem.run_pure]
        simp only [execOp, hop, resolve, hcal, hgf, Deferred.ofValue, Sem.run_bind, Sem.run_pure, Result.andThen_ok, invoke, Instr.yield, hgo, Array.empty_append, Sem.run_ite]
        rw [if_neg (by simpa using hsz)]
      obtain ⟨_, hrec⟩ := hih _ _ _ _ _ _ _ _ _ _ h
      have hfr2 : FrR σ (Frame.round p.blk lp'.fn ((lp'.params.zip (c.args.map fr.eval)).foldl (fun tmps (x : Tmp × Value) => tmps.setIfInBounds x.1 x.2) lp'.tmps) lp'.assign lp'.body .normal) lp.fn (some l)
          (setAll lp.params.toList args lp.tmps.toList) [.code lp.assign, .beginRound, .code lp.body] [] := by
        refine ⟨rfl, rfl, a3, ?_, by simp [Frame.round, a6, a7], .nil, ⟨p, a0, rfl⟩⟩
        have := setAll_rel lp.params.toList args (c.args.map fr.eval).toList lp.tmps.toList lp'.tmps hal a4 hb.symm
        simp only [Frame.round]
        rw [← Array.foldl_toList, Array.toList_zip, a5]
        exact this
      obtain ⟨σ', w', v', e1, e2, e3⟩ := hrec σ w _ (fr :: cs) hfr2 H hf
      exact ⟨σ', w', v', e1, e2, .head (st_op_round hm ht ho hw hnd hrun) (e3 fr cs rfl)⟩

theorem range_drop (m i : Nat) (h : i < m) : (List.range m).drop i = i :: (List.range m).drop (i + 1) := by
  rw [List.drop_eq_getElem_cons (by simpa using h)]
  simp

/-- A region in the order of the text. -/
theorem evSeq_ok {ih : Rec} (hF : F.ok P) (hih : RecOK P ih) (ops : Array Oper) : ∀ (rest : List Oper) (i : Nat) (ts : List Value) (t : Tr) (n : Nat) (ts' : List Value) (t' : Tr) (n' : Nat), ops.toList.drop i = rest → evSeq P F ih ops.toList rest ts t n = .ok (ts', t', n') →
    n ≤ n' ∧ ∀ σ w fr, fr.mode = .run → LR σ ts fr.tmps.toList → fr.todo = .inRegion ops ((List.range ops.size).drop i) :: k → Holds σ t.mem w → Fresh σ n n' →
      ∃ σ' w' tmps', Ext t.mem n n' σ σ' t'.mem w w' ∧ LR σ' ts' tmps'.toList ∧ Steps P (lone fr cs w) (lone { fr with tmps := tmps', todo := k } cs w')
  | [], i, ts, t, n, ts', t', n', hd, h => by
    simp only [evSeq, Except.ok.injEq, Prod.mk.injEq] at h
    obtain ⟨rfl, rfl, rfl⟩ := h
    refine ⟨Nat.le_refl _, fun σ w fr hm hts ht H hf => ⟨σ, w, fr.tmps, Ext.refl H, hts, ?_⟩⟩
    have hi : ops.size ≤ i := by simpa using List.drop_eq_nil_iff.1 hd
    have : (List.range ops.size).drop i = [] := List.drop_eq_nil_iff.2 (by simpa using hi)
    rw [this] at ht
    exact .one (st_region_end hm ht)
  | o :: rest, i, ts, t, n, ts', t', n', hd, h => by
    have hi : i < ops.size := by
      rcases Nat.lt_or_ge i ops.size with h | h
      · exact h
      · have := List.drop_eq_nil_iff.2 (show ops.toList.length ≤ i by simpa using h)
        rw [this] at hd; cases hd
    have hcons := List.drop_eq_getElem_cons (l := ops.toList) (i := i) (by simpa using hi)
    rw [hd] at hcons
    injection hcons with ho hrest
    have hoi : ops[i]? = some o := by simp [hi, ho]
    simp only [evSeq] at h
    cases hwv : wantedV ops.toList ts o with
    | true =>
      rw [hwv, cond_true] at h
      split at h
      case h_2 => cases h
      rename_i v1 t1 n1 hc
      unfold chk at hc
      split at hc
      case h_2 => cases hc
      rename_i v2 t2 n2 hop
      cases hle : Nat.ble n n2 with
      | false => rw [hle] at hc; cases hc
      | true =>
        rw [hle, cond_true] at hc
        cases hc
        have hle := Nat.le_of_ble_eq_true hle
        obtain ⟨hle2, hrec⟩ := evSeq_ok hF hih ops rest (i + 1) _ _ _ _ _ _ hrest.symm h
        refine ⟨by omega, fun σ w fr hm hts ht H hf => ?_⟩
        rw [range_drop _ _ hi] at ht
        obtain ⟨σ1, w1, v', e1, e2, e3⟩ := evOp_ok (cs := cs) hF hih hop hm (env_ok (fr := fr) hts) ht hoi (by rw [wanted_eq hts]; exact hwv) H (hf.part (Nat.le_refl _) hle2)
        rw [finish_region ht, hoi] at e3
        obtain ⟨σ', w', tmps', f1, f2, f3⟩ := hrec σ1 w1 { fr with tmps := putT fr.tmps o.dst v', todo := .inRegion ops ((List.range ops.size).drop (i + 1)) :: k } hm (put_rel (fr := fr) (hts.mono e1.more) e2 o.dst) rfl e1.holds (e1.fresh hf)
        exact ⟨σ', w', tmps', e1.trans f1, f2, e3.trans f3⟩
    | false =>
      rw [hwv, cond_false] at h
      obtain ⟨hle2, hrec⟩ := evSeq_ok hF hih ops rest (i + 1) _ _ _ _ _ _ hrest.symm h
      refine ⟨hle2, fun σ w fr hm hts ht H hf => ?_⟩
      rw [range_drop _ _ hi] at ht
      have hsk := st_op_skip (P := P) (cs := cs) (w := w) hm ht (by rw [hoi]; simp only [Option.map_some, Option.getD_some]; rw [wanted_eq hts]; exact hwv)
      rw [finish_region ht, hoi] at hsk
      obtain ⟨σ', w', tmps', f1, f2, f3⟩ := hrec σ w { fr with tmps := putT fr.tmps o.dst undef, todo := .inRegion ops ((List.range ops.size).drop (i + 1)) :: k } hm (put_rel (fr := fr) hts undef_rel o.dst) rfl H hf
      exact ⟨σ', w', tmps', f1, f2, .head hsk f3⟩

end
end Ev
end Go.Proofs.YtgidmgkebkodoaaGreatDoor
