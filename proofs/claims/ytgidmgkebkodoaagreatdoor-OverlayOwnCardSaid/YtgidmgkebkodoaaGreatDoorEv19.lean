/- A run on closed data, reckoned by the kernel, 19: whatever order is drawn, the machine comes to what was reckoned in one. -/
import Derived.Test.YtgidmgkebkodoaaGreatDoorEv18
set_option linter.unusedSimpArgs false
set_option linter.unusedVariables false
set_option linter.unusedSectionVars false
namespace Go.Proofs.YtgidmgkebkodoaaGreatDoor
open Go.RowKit
namespace Ev
variable [Vars]

section
variable {P : Program} {F : Book} {ih : Rec} {ops : Array Oper} {σ0 : Sg} {w0 : World} {h0 : Mem} {n0 : Nat} {ts0 : List Value} {Sf : DS}

/-- All that is held where some operations have been done. -/
structure INV (P : Program) (F : Book) (ih : Rec) (ops : Array Oper) (σ0 : Sg) (w0 : World) (h0 : Mem) (n0 : Nat) (ts0 : List Value) (Sf : DS)
    (R : List Nat) (S : DS) (done : Nat) (L : Nat → Bool) (tm : Array Value) (w : World) (σ : Sg) : Prop where
  ev : evDr P F ih ops.toList (ancs ops.toList []) (loudMask ops.toList 0 0) R S = .ok Sf
  ord : ordOK ops.toList (ancs ops.toList []) ops.size R done = true
  sub : ∀ j, Nat.testBit done j = true → L j = true
  quiet : ∀ j ∈ R, L j = true → ∀ o, ops[j]? = some o → isLoud o = false
  lm : ∀ j o, Nat.testBit done j = true → ops[j]? = some o → isLoud o = true → Nat.testBit S.lm j = true
  hist : (S.lm, S.n, S.t) ∈ S.hist
  news : ∀ e k o, (e, k, o) ∈ S.news → k < S.n
  ext : Ext h0 n0 Sf.n σ0 σ (fun j => match S.t.mem j with | some o => some o | none => exM P F ih ops.toList (ancs ops.toList []) (loudMask ops.toList 0 0) L R S j) w0 w
  bnd : ∀ j, S.n ≤ j → j < Sf.n → S.t.mem j = none
  fresh : ∀ j, S.n ≤ j → j < Sf.n → exM P F ih ops.toList (ancs ops.toList []) (loudMask ops.toList 0 0) L R S j = none → σ j = none
  tf : ∀ x v, (∀ j, j < ops.size → dstIs ops.toList x j = true → L j = true) → Sf.ts[x]? = some v → ∃ v', tm[x]? = some v' ∧ VR σ v v'
  t0 : ∀ x v, (∀ j, j < ops.size → dstIs ops.toList x j = true → L j = false) → ts0[x]? = some v → ∃ v', tm[x]? = some v' ∧ VR σ v v'
  base : ∀ x, (∀ j, Nat.testBit done j = true → dstIs ops.toList x j = false) → S.ts[x]? = ts0[x]?
  len : ts0.length = tm.size
  len2 : S.ts.length = ts0.length
  down : Down ops.toList (fun j => L j = true)
  le : n0 ≤ S.n

variable {R : List Nat} {S : DS} {done : Nat} {L : Nat → Bool} {tm : Array Value} {w : World} {σ : Sg}

theorem INV.part (I : INV P F ih ops σ0 w0 h0 n0 ts0 Sf R S done L tm w σ) : Holds σ S.t.mem w :=
  I.ext.holds.part fun i o hi => by rw [hi]

/-- An operation that was done ahead of its turn has its turn. -/
theorem INV.absorb {i : Nat} (I : INV P F ih ops σ0 w0 h0 n0 ts0 Sf (i :: R) S done L tm w σ) (hL : L i = true) :
    ∃ S', INV P F ih ops σ0 w0 h0 n0 ts0 Sf R S' (done ||| 2 ^ i) L tm w σ := by
  obtain ⟨S', h1, h2⟩ := evDr_cons I.ev
  obtain ⟨o, g1, g2, g3, g4, g5, g6, g7, g8⟩ := ordOK_cons I.ord
  obtain ⟨a1, a2, a3, a4, a5, a6⟩ := dstep_all h1
  have hoi : ops[i]? = some o := by simpa using g1
  have hq : isLoud o = false := I.quiet i List.mem_cons_self hL o hoi
  have hbits : ∀ j, Nat.testBit (done ||| 2 ^ i) j = true → Nat.testBit done j = true ∨ j = i := by
    intro j hj
    rw [tb_or, tb_pow] at hj
    simp only [Bool.or_eq_true, decide_eq_true_eq] at hj
    exact hj.imp id Eq.symm
  have key : (fun j => match S'.t.mem j with | some o => some o | none => exM P F ih ops.toList (ancs ops.toList []) (loudMask ops.toList 0 0) L R S' j) =
      (fun j => match S.t.mem j with | some o => some o | none => exM P F ih ops.toList (ancs ops.toList []) (loudMask ops.toList 0 0) L (i :: R) S j) ∧
      (∀ j, S'.n ≤ j → j < Sf.n → S'.t.mem j = none) ∧ (∀ j, S'.n ≤ j → exM P F ih ops.toList (ancs ops.toList []) (loudMask ops.toList 0 0) L (i :: R) S j = exM P F ih ops.toList (ancs ops.toList []) (loudMask ops.toList 0 0) L R S' j) := by
    rw [exM_cons h1]
    cases hn : newAt ops.toList i S with
    | true =>
      obtain ⟨o', N, _, _, _, _, htop, e⟩ := newAt_n h1 hn
      have hSn : S.n < Sf.n := by
        have := (evDr_all h2).1
        rw [e] at this
        exact this
      have hnone := I.bnd S.n (Nat.le_refl _) hSn
      have ht : S'.t.mem = fun j => if j = S.n then some (.cells N.cs N.e 0) else S.t.mem j := by rw [e]; exact Tr.mem_set htop
      have hn' : S'.n = S.n + 1 := by rw [e]
      refine ⟨funext fun j => ?_, fun j hj hj2 => ?_, fun j hj => ?_⟩
      · rw [ht]
        by_cases hj : j = S.n
        · subst hj
          simp only [hnone, hL, if_true, and_self, ht]
        · simp only [hj, if_false, and_false]
      · rw [ht]
        dsimp only
        rw [if_neg (by omega)]
        exact I.bnd j (by omega) hj2
      · dsimp only
        rw [if_neg (by rw [hn'] at hj; omega)]
    | false =>
      have hsame : S'.t = S.t ∧ S'.n = S.n := by
        obtain ⟨o2, ho2, hc⟩ := dstep_cases h1
        rw [g1] at ho2; cases ho2
        rcases hc with ⟨b1, b2, _⟩ | ⟨_, _, b3, _⟩ | ⟨_, _, _, v, _, _, rfl⟩ | ⟨_, b2, _⟩ | ⟨_, _, rfl⟩
        · unfold newAt at hn
          rw [g1] at hn
          simp [b1, b2] at hn
        · rw [hq] at b3; cases b3
        · exact ⟨rfl, rfl⟩
        · rw [hq] at b2; cases b2
        · exact ⟨rfl, rfl⟩
      rw [hsame.1, hsame.2]
      refine ⟨funext fun j => ?_, I.bnd, fun j hj => ?_⟩
      · simp
      · simp
  refine ⟨S', h2, g8, fun j hj => ?_, fun j hj => I.quiet j (List.mem_cons_of_mem _ hj), fun j o' hj ho' hl => ?_, a5 I.hist, (dstep_news h1 I.news).1, ?_, key.2.1, fun j hj hj2 hx => I.fresh j (by omega) hj2 (by rw [key.2.2 j hj]; exact hx), I.tf, I.t0, fun x hx => ?_, I.len, a2.trans I.len2, I.down, Nat.le_trans I.le a1⟩
  · rcases hbits j hj with h | rfl
    · exact I.sub j h
    · exact hL
  · rcases hbits j hj with h | rfl
    · exact a6 j (I.lm j o' h ho' hl)
    · rw [hoi] at ho'; cases ho'; rw [hq] at hl; cases hl
  · rw [key.1]; exact I.ext
  · rw [a3 x (hx i (by rw [tb_or, tb_pow]; simp))]
    exact I.base x fun j hj => hx j (by rw [tb_or, hj]; rfl)

/-- All such have had theirs. -/
theorem INV.norm : ∀ {R : List Nat} {S : DS} {done : Nat}, INV P F ih ops σ0 w0 h0 n0 ts0 Sf R S done L tm w σ → ∃ R' S' done', INV P F ih ops σ0 w0 h0 n0 ts0 Sf R' S' done' L tm w σ ∧ (R' = [] ∨ ∃ i R'', R' = i :: R'' ∧ L i = false)
  | [], S, done, I => ⟨[], S, done, I, .inl rfl⟩
  | i :: R, S, done, I => by
    cases hL : L i with
    | false => exact ⟨i :: R, S, done, I, .inr ⟨i, R, rfl, hL⟩⟩
    | true =>
      obtain ⟨S', I'⟩ := I.absorb hL
      exact I'.norm

/-- An operation that may be next finds its operands. -/
theorem INV.env {fr : Frame} (I : INV P F ih ops σ0 w0 h0 n0 ts0 Sf R S done L fr.tmps w σ) {i : Nat} {o : Oper} (ho : ops[i]? = some o) (hL : L i = false) (hr : ∀ e ∈ o.after.toList, Region.binds .any e = true → L e.on = true)
    {R2 : List Nat} {Si Sj : DS} {di : Nat} (A : AtI P F ih ops.toList (ancs ops.toList []) (loudMask ops.toList 0 0) ops.size Sf R S done i L R2 Si Sj di) :
    (∀ x ∈ tmpsOf ops.toList o, ∀ v, Si.ts[x]? = some v → ∃ v', fr.tmps[x]? = some v' ∧ VR σ v v') ∧ (envO Si.ts (tmpsOf ops.toList o)).ok σ fr.eval ∧
      Region.wanted o (yielded ops fr.tmps) = wantedV ops.toList Si.ts o := by
  have hoi : ops.toList[i]? = some o := by simpa using ho
  obtain ⟨o', g1, g2, g3, g4, g5, g6, g7, g8⟩ := ordOK_cons A.ord
  rw [hoi] at g1; cases g1
  have hanc : ∀ {j k : Nat} {oj : Oper}, ops[j]? = some oj → (∀ e ∈ oj.after.toList, Region.binds .any e = true → L e.on = true) → Nat.testBit ((ancs ops.toList []).getD j 0) k = true → L k = true := by
    intro j k oj hoj hej hk
    refine anc_in ops.toList I.down (i := j) (fun o2 e ho2 he hb => ?_) hk
    have : ops.toList[j]? = some oj := by simpa using hoj
    rw [this] at ho2; cases ho2
    exact hej e he hb
  have hlen : Si.ts.length = Sf.ts.length := by
    have h1 := (evDr_all A.ev).2.1
    have h2 := (dstep_all A.step).2.1
    omega
  have vals : ∀ x ∈ tmpsOf ops.toList o, ∀ v, Si.ts[x]? = some v → ∃ v', fr.tmps[x]? = some v' ∧ VR σ v v' := by
    intro x hx v hv
    rcases g6 x hx with ⟨b1, b2⟩ | ⟨b1, b2⟩
    · refine I.tf x v (fun j hj hd => hanc ho hr (writersIn_ok b1 j hj hd)) ?_
      have e1 := (evDr_all A.ev).2.2 x fun j hj => b2 j (List.mem_cons_of_mem _ hj)
      have e2 := (dstep_all A.step).2.2.1 x (b2 i List.mem_cons_self)
      rw [e1, e2]; exact hv
    · refine I.t0 x v (fun j hj hd => ?_) ?_
      · cases hLj : L j with
        | false => rfl
        | true =>
          have hbit := writersOut_ok b1 j hj hd
          have hoj : ∃ oj, ops[j]? = some oj := ⟨_, Array.getElem?_eq_getElem (by omega)⟩
          obtain ⟨oj, hoj⟩ := hoj
          have hojl : ops.toList[j]? = some oj := by simpa using hoj
          have := hanc hoj (fun e he hb => I.down j oj e hojl hLj he hb) hbit
          rw [hL] at this; cases this
      · have hw : ∀ j, Nat.testBit di j = true → dstIs ops.toList x j = false := fun j hj => by
          rcases Nat.lt_or_ge j ops.size with h | h
          · exact unwritten_ok b2 j h hj
          · unfold dstIs
            rw [List.getElem?_eq_none (by simpa using h)]
            rfl
        rw [← hv, A.ts x fun j hj _ => hw j hj]
        exact (I.base x fun j hj => hw j (A.bits j hj)).symm
  refine ⟨vals, fun x v hx => ?_, ?_⟩
  · cases x with
    | tmp k =>
      simp only [envO, getF_eq] at hx
      cases hm : memN k (tmpsOf ops.toList o) with
      | false => rw [hm] at hx; cases hx
      | true =>
        rw [hm, cond_true] at hx
        obtain ⟨v', h1, h2⟩ := vals k (memN_iff.1 hm) v hx
        have : fr.eval (.tmp k) = v' := by
          simp only [Frame.eval]
          simp [Array.getD_eq_getD_getElem?, h1]
        rw [this]; exact h2
    | const c =>
      simp only [envO, envV] at hx
      cases hp : plain 3 c with
      | false => rw [hp] at hx; cases hx
      | true =>
        rw [hp, cond_true, Option.some.injEq] at hx
        subst hx
        exact plain_rel 3 c hp
    | global g =>
      simp only [envO, envV] at hx
      cases hon : (Vars.on : Bool) with
      | false => rw [hon] at hx; cases hx
      | true =>
        rw [hon, cond_true, Option.some.injEq] at hx
        subst hx
        exact .glob g
    | func f =>
      simp only [envO, envV, Option.some.injEq] at hx
      subst hx
      exact .func f #[] #[] rfl fun i h => by simp at h
  · unfold Region.wanted wantedV
    simp only [getF_eq]
    cases hg : o.guard with
    | none => rfl
    | some q =>
      obtain ⟨j, want⟩ := q
      dsimp only
      unfold yielded
      rw [Array.getElem?_toList]
      cases hd : (ops[j]?).bind (·.dst) with
      | none => rfl
      | some d =>
        simp only [Option.bind_some]
        have hdm : d ∈ tmpsOf ops.toList o := by
          unfold tmpsOf
          rw [hg]
          simp only [Array.getElem?_toList, hd]
          exact List.mem_cons_self
        cases ht : Si.ts[d]? with
        | none =>
          have : fr.tmps[d]? = none := by
            rw [List.getElem?_eq_none_iff] at ht
            rw [Array.getElem?_eq_none_iff]
            have h1 := (evDr_all I.ev).2.1
            have h2 := I.len2
            have h3 := I.len
            omega
          rw [this]; rfl
        | some v =>
          obtain ⟨y, hy, hr⟩ := vals d hdm v ht
          rw [hy]
          cases hr <;> simp

theorem held_ok {P : Program} {o : Oper} {tm : List Tmp} {ts : List Value} {anc lou : Nat} {news : List (Nat × Nat × VO)} {v : Value} {m k : Nat} {t : Tr} : ∀ {hs : List (Nat × Nat × Tr)}, held P o tm ts anc lou news v hs = true → (m, k, t) ∈ hs → Ev.sub (Nat.land anc lou) m = true → evSame P (envO ts tm) (withNews anc k news t) o = some v
  | [], _, hm, _ => by simp at hm
  | (m', k', t') :: hs, h, hm, hs' => by
    simp only [held, Bool.and_eq_true, Bool.or_eq_true, Bool.not_eq_true'] at h
    rcases List.mem_cons.1 hm with he | hm
    · cases he
      rcases h.1 with h1 | h1
      · rw [hs'] at h1; cases h1
      · split at h1
        · rename_i u hu
          rw [hu, valEq_ok 60 u v h1]
        · cases h1
    · exact held_ok h.2 hm hs'

theorem withNews_mem {anc k : Nat} {j : Nat} {x : VO} : ∀ {ns : List (Nat × Nat × VO)} {t : Tr}, (withNews anc k ns t).mem j = some x → t.mem j = some x ∨ ∃ e, (e, j, x) ∈ ns ∧ Nat.testBit anc e = true ∧ k ≤ j
  | [], t, h => .inl h
  | (e, id, o) :: ns, t, h => by
    simp only [withNews] at h
    cases hc : (Nat.testBit anc e && Nat.ble k id && Nat.blt id top) with
    | true =>
      rw [hc, cond_true] at h
      simp only [Bool.and_eq_true] at hc
      have hlt : id < top := Nat.le_of_ble_eq_true hc.2
      rcases withNews_mem h with h1 | ⟨e', h1, h2, h3⟩
      · rw [Tr.mem_set hlt] at h1
        dsimp only at h1
        by_cases hj : j = id
        · rw [if_pos hj] at h1
          cases h1
          subst hj
          exact .inr ⟨e, List.mem_cons_self, hc.1.1, Nat.le_of_ble_eq_true hc.1.2⟩
        · rw [if_neg hj] at h1
          exact .inl h1
      · exact .inr ⟨e', List.mem_cons_of_mem _ h1, h2, h3⟩
    | false =>
      rw [hc, cond_false] at h
      rcases withNews_mem h with h1 | ⟨e', h1, h2, h3⟩
      · exact .inl h1
      · exact .inr ⟨e', List.mem_cons_of_mem _ h1, h2, h3⟩

theorem notDefer {o : Oper} (h : isLoud o = false) : ∀ c, o.op ≠ .defer c := by
  intro c hc
  unfold isLoud at h
  rw [hc] at h
  cases h

theorem putT_get (ts : Array Value) (d : Option Tmp) (v : Value) (x : Nat) (h : d ≠ some x) : (putT ts d v)[x]? = ts[x]? := by
  unfold putT
  cases d with
  | none => rfl
  | some d =>
    have : d ≠ x := fun e => h (by rw [e])
    simp [Array.getElem?_setIfInBounds_ne this]
theorem putT_size (ts : Array Value) (d : Option Tmp) (v : Value) : (putT ts d v).size = ts.size := by
  unfold putT; cases d <;> simp
theorem putT_same (ts : Array Value) (d : Nat) (v : Value) (h : d < ts.size) : (putT ts (some d) v)[d]? = some v := by
  simp [putT, h]

/-- The slots behind an operation. -/
theorem INV.slots {fr : Frame} (I : INV P F ih ops σ0 w0 h0 n0 ts0 Sf R S done L fr.tmps w σ) {i : Nat} {o : Oper} (ho : ops[i]? = some o) (hL : L i = false)
    {R2 : List Nat} {Si Sj : DS} {di : Nat} (A : AtI P F ih ops.toList (ancs ops.toList []) (loudMask ops.toList 0 0) ops.size Sf R S done i L R2 Si Sj di)
    {τ : Sg} (hle : Sg.le σ τ) {v v' : Value} (hv : VR τ v v') (hSj : Sj.ts = putV Si.ts o.dst v) :
    (∀ x u, (∀ j, j < ops.size → dstIs ops.toList x j = true → setL L i j = true) → Sf.ts[x]? = some u → ∃ u', (putT fr.tmps o.dst v')[x]? = some u' ∧ VR τ u u') ∧
    (∀ x u, (∀ j, j < ops.size → dstIs ops.toList x j = true → setL L i j = false) → ts0[x]? = some u → ∃ u', (putT fr.tmps o.dst v')[x]? = some u' ∧ VR τ u u') := by
  have hoi : ops.toList[i]? = some o := by simpa using ho
  obtain ⟨o', g1, g2, g3, g4, g5, g6, g7, g8⟩ := ordOK_cons A.ord
  rw [hoi] at g1; cases g1
  constructor
  · intro x u hx hu
    by_cases hd : o.dst = some x
    · have e1 := (evDr_all A.ev).2.2 x fun j hj => g7 x hd j hj
      rw [hu, hSj] at e1
      have hlt : x < Si.ts.length := by
        have h := e1
        rw [hd] at h
        unfold putV at h
        simp only [setF_eq] at h
        have h2 := (List.getElem?_eq_some_iff.1 h.symm).1
        simpa using h2
      rw [hd, putV_same _ _ _ hlt] at e1
      cases e1
      refine ⟨v', ?_, hv⟩
      rw [hd]
      refine putT_same _ _ _ ?_
      have h1 : Sf.ts.length = Sj.ts.length := (evDr_all A.ev).2.1
      have h2 : Sj.ts.length = Si.ts.length := (dstep_all A.step).2.1
      have h3 : Sf.ts.length = S.ts.length := (evDr_all I.ev).2.1
      have h4 : S.ts.length = ts0.length := I.len2
      have h5 : ts0.length = fr.tmps.size := I.len
      exact Nat.lt_of_lt_of_eq hlt (by omega)
    · obtain ⟨u', h1, h2⟩ := I.tf x u (fun j hj hdj => by
        have := hx j hj hdj
        unfold setL at this
        by_cases hji : j = i
        · subst hji
          exact absurd ((dstIs_of hoi).1 hdj) hd
        · rw [if_neg hji] at this; exact this) hu
      exact ⟨u', by rw [putT_get _ _ _ _ hd]; exact h1, h2.mono hle⟩
  · intro x u hx hu
    have hd : o.dst ≠ some x := fun hd => by
      have := hx i g2 ((dstIs_of hoi).2 hd)
      simp [setL] at this
    obtain ⟨u', h1, h2⟩ := I.t0 x u (fun j hj hdj => by
      have := hx j hj hdj
      unfold setL at this
      by_cases hji : j = i
      · rw [if_pos hji] at this; cases this
      · rw [if_neg hji] at this; exact this) hu
    exact ⟨u', by rw [putT_get _ _ _ _ hd]; exact h1, h2.mono hle⟩

theorem down_set {ops : List Oper} {L : Nat → Bool} {i : Nat} {o : Oper} (h : Down ops (fun j => L j = true)) (ho : ops[i]? = some o) (hr : ∀ e ∈ o.after.toList, Region.binds .any e = true → L e.on = true) : Down ops (fun j => setL L i j = true) := by
  intro j oj e hoj hj he hb
  have key : L e.on = true := by
    by_cases hji : j = i
    · subst hji
      rw [ho] at hoj; cases hoj
      exact hr e he hb
    · unfold setL at hj
      rw [if_neg hji] at hj
      exact h j oj e hoj hj he hb
  show setL L i e.on = true
  unfold setL
  split
  · rfl
  · exact key

/-- An operation that reckons, reads, or makes a block. -/
theorem INV.float {fr : Frame} {cs : List Frame} {k : List Item} {rest : List Nat} (I : INV P F ih ops σ0 w0 h0 n0 ts0 Sf R S done L fr.tmps w σ) {i : Nat} {o : Oper} (hm : fr.mode = .run) (ht : fr.todo = .inRegion ops (i :: rest) :: k) (ho : ops[i]? = some o) (hL : L i = false)
    (hi : i < ops.size) (hq : isLoud o = false) (hr : ∀ e ∈ o.after.toList, Region.binds .any e = true → L e.on = true) :
    ∃ σ' w' v', INV P F ih ops σ0 w0 h0 n0 ts0 Sf R S done (setL L i) (putT fr.tmps o.dst v') w' σ' ∧ step P (lone fr cs w) = .next (lone (fr.finish v') cs w') := by
  have hoi : ops.toList[i]? = some o := by simpa using ho
  have hiR : i ∈ R := by
    rcases ordOK_all I.ord i hi with h | h
    · rw [I.sub i h] at hL; cases hL
    · exact h
  obtain ⟨R2, Si, Sj, di, A⟩ := at_turn hL I.news I.ev I.ord hiR
  obtain ⟨vals, henv, hwant⟩ := I.env ho hL hr A
  have hlen2 : ∀ v' : Value, ts0.length = (putT fr.tmps o.dst v').size := fun v' => by rw [putT_size]; exact I.len
  have hsub : ∀ j, Nat.testBit done j = true → setL L i j = true := fun j hj => by
    unfold setL
    split
    · rfl
    · exact I.sub j hj
  have hquiet : ∀ j ∈ R, setL L i j = true → ∀ o, ops[j]? = some o → isLoud o = false := by
    intro j hj hs oj hoj
    by_cases hji : j = i
    · subst hji
      rw [ho] at hoj; cases hoj; exact hq
    · unfold setL at hs
      rw [if_neg hji] at hs
      exact I.quiet j hj hs oj hoj
  have hdown := down_set I.down hoi hr
  obtain ⟨o2, ho2, hc⟩ := dstep_cases A.step
  rw [hoi] at ho2; cases ho2
  have quietly : newAt ops.toList i Si = false → ∀ {v v' : Value}, VR σ v v' → Sj.ts = putV Si.ts o.dst v → INV P F ih ops σ0 w0 h0 n0 ts0 Sf R S done (setL L i) (putT fr.tmps o.dst v') w σ := by
    intro hn v v' hv hSj
    have hex : exM P F ih ops.toList (ancs ops.toList []) (loudMask ops.toList 0 0) (setL L i) R S = exM P F ih ops.toList (ancs ops.toList []) (loudMask ops.toList 0 0) L R S := by
      rw [A.set]
      funext j
      rw [if_neg (by rw [hn]; simp)]
    obtain ⟨s1, s2⟩ := I.slots ho hL A (Sg.le.refl σ) hv hSj
    exact ⟨I.ev, I.ord, hsub, hquiet, I.lm, I.hist, I.news, by rw [hex]; exact I.ext, I.bnd, by rw [hex]; exact I.fresh, s1, s2, I.base, hlen2 v', I.len2, hdown, I.le⟩
  rcases hc with ⟨b1, b2, N, b3, b4, b5⟩ | ⟨_, _, b3, _⟩ | ⟨b1, b2, b3, v, b4, b5, b6⟩ | ⟨_, b2, _⟩ | ⟨b1, b2, b3⟩
  · -- a new block
    obtain ⟨cs', hl, hrun⟩ := evNew_ok henv b3 w
    have hn : newAt ops.toList i Si = true := by unfold newAt; rw [hoi]; simp [b1, b2]
    have hnone := A.none hn
    have hSf : Si.n + 1 ≤ Sf.n := by
      have := (evDr_all A.ev).1
      rw [b5] at this
      exact this
    have hσ := I.fresh Si.n A.n (by omega) hnone
    have hb := I.bnd Si.n A.n (by omega)
    have e1 := Ext.row I.ext.holds hσ hl N.e
    have e2 := I.ext.wide e1 (Nat.le_trans I.le A.n) hSf
    have hSjt : Sj.t.mem = fun j => if j = Si.n then some (.cells N.cs N.e 0) else Si.t.mem j := by rw [b5]; exact Tr.mem_set b4
    have hU : (fun j => if j = Si.n then some (VO.cells N.cs N.e 0) else (match S.t.mem j with | some o => some o | none => exM P F ih ops.toList (ancs ops.toList []) (loudMask ops.toList 0 0) L R S j)) =
        (fun j => match S.t.mem j with | some o => some o | none => exM P F ih ops.toList (ancs ops.toList []) (loudMask ops.toList 0 0) (setL L i) R S j) := by
      funext j
      rw [A.set]
      by_cases hj : j = Si.n
      · subst hj
        simp only [hb, hn, if_true, true_and, hSjt]
      · simp only [hj, if_false, and_false]
    have hv := Sh.rel (σ := σ.put Si.n ⟨w.heap.size, 0, N.cs.length, 0⟩) N.sh Sg.put_same rfl rfl
    obtain ⟨s1, s2⟩ := I.slots ho hL A (Sg.put_le hσ) hv (by rw [b5])
    refine ⟨_, _, N.sh.val w.heap.size, ⟨I.ev, I.ord, hsub, hquiet, I.lm, I.hist, I.news, by rw [← hU]; exact e2, I.bnd, fun j hj hj2 hx => ?_, s1, s2, I.base, hlen2 _, I.len2, hdown, I.le⟩, st_op_value hm ht ho (by rw [hwant]; exact b1) (notDefer hq) (.inl hrun)⟩
    rw [A.set] at hx
    dsimp only at hx
    by_cases hjn : j = Si.n
    · rw [if_pos ⟨hn, hjn⟩, hSjt, hjn] at hx
      simp at hx
    · rw [if_neg fun h => hjn h.2] at hx
      unfold Sg.put
      rw [if_neg hjn]
      exact I.fresh j hj hj2 hx
  · rw [hq] at b3; cases b3
  · -- it reckons or reads
    have hlm : Ev.sub (Nat.land ((ancs ops.toList []).getD i 0) (loudMask ops.toList 0 0)) S.lm = true := by
      refine sub_of fun j hj => ?_
      have hj' : Nat.testBit ((ancs ops.toList []).getD i 0 &&& loudMask ops.toList 0 0) j = true := hj
      rw [Nat.testBit_and] at hj'
      simp only [Bool.and_eq_true] at hj'
      obtain ⟨h1, h2⟩ := hj'
      rcases (loudMask_bit _ _ _ _).1 h2 with h2 | ⟨k', oj, h3, h4, h5⟩
      · simp at h2
      · rw [Nat.zero_add] at h5
        subst h5
        have hLj : L j = true := anc_in ops.toList I.down (i := i) (fun o2 e ho2 he hb => by rw [hoi] at ho2; cases ho2; exact hr e he hb) h1
        have hoj : ops[j]? = some oj := by simpa using h3
        have hjs : j < ops.size := (Array.getElem?_eq_some_iff.1 hoj).1
        rcases ordOK_all I.ord j hjs with h | h
        · exact I.lm j oj h hoj h4
        · rw [I.quiet j h hLj oj hoj] at h4; cases h4
    have hval := held_ok b5 (A.hist _ I.hist) hlm
    have hpart : Holds σ (withNews ((ancs ops.toList []).getD i 0) S.n Si.news S.t).mem w := by
      refine I.ext.holds.part fun j x hj => ?_
      rcases withNews_mem hj with h | ⟨e, h1, h2, h3⟩
      · rw [h]
      · have hLe : L e = true := anc_in ops.toList I.down (i := i) (fun o2 e2 ho2 he hb => by rw [hoi] at ho2; cases ho2; exact hr e2 he hb) h2
        have hx := A.news e j x h1 h3 hLe
        have hb := I.bnd j h3 ((exM_dom I.ev j x hx).2)
        rw [hb]
        exact hx
    obtain ⟨v', h1, h2⟩ := evSame_ok hpart henv hval
    have hn : newAt ops.toList i Si = false := by unfold newAt; rw [hoi]; simp [b2]
    exact ⟨σ, w, v', quietly hn h1 (by rw [b6]), st_op_value hm ht ho (by rw [hwant]; exact b1) (notDefer hq) (.inl h2)⟩
  · rw [hq] at b2; cases b2
  · -- it isn't wanted
    have hn : newAt ops.toList i Si = false := by unfold newAt; rw [hoi]; simp [b1]
    refine ⟨σ, w, undef, quietly hn undef_rel (by rw [b3]), st_op_skip hm ht ?_⟩
    rw [ho]
    simp only [Option.map_some, Option.getD_some]
    rw [hwant]; exact b1

end
end Ev
end Go.Proofs.YtgidmgkebkodoaaGreatDoor
