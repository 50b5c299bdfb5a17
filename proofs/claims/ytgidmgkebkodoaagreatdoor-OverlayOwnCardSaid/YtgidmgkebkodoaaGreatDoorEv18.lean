/- A run on closed data, reckoned by the kernel, 18: where a region that draws its order stands, whatever was drawn. -/
import Derived.Test.YtgidmgkebkodoaaGreatDoorEv17
set_option linter.unusedSimpArgs false
set_option linter.unusedVariables false
set_option linter.unusedSectionVars false
namespace Go.Proofs.YtgidmgkebkodoaaGreatDoor
open Go.RowKit
namespace Ev
variable [Vars]
noncomputable section

/-! two lemmas on 'Ext' -/
section
variable {h h' h'' : Mem} {n n' m m' : Nat} {σ σ' σ'' : Sg} {w w' w'' : World}
/-- Names within those that may be used. -/
theorem Ext.wide (a : Ext h n m σ σ' h' w w') (b : Ext h' n' m' σ' σ'' h'' w' w'') (h1 : n ≤ n') (h2 : m' ≤ m) : Ext h n m σ σ'' h'' w w'' where
  le := a.le
  more := a.more.trans b.more
  off := fun i p hi => by
    rcases b.off i p hi with h3 | h3
    · exact a.off i p h3
    · exact .inr ⟨by omega, by omega⟩
  holds := b.holds
  os := b.os.trans a.os
  tape := b.tape.trans a.tape
  output := b.output.trans a.output
  size := Nat.le_trans a.size b.size
  frame := fun k hk hn => by
    rw [b.frame k (by have := a.size; omega) ?_, a.frame k hk hn]
    intro i o p hi hp hb
    rcases a.place i o p hi hp with h1 | ⟨j, o', q, h1, h2, h3⟩
    · omega
    · exact hn j o' q h1 h2 (h3.trans hb)
  live := fun i o hi => by
    rcases b.live i o hi with ⟨o', h3⟩ | h3
    · exact a.live i o' h3
    · exact .inr ⟨by omega, by omega⟩
  place := fun i o p hi hp => by
    rcases b.place i o p hi hp with h1 | ⟨j, o', q, h1, h2, h3⟩
    · exact .inl (Nat.le_trans a.size h1)
    · rcases a.place j o' q h1 h2 with h4 | ⟨k, o'', r, h4, h5, h6⟩
      · exact .inl (by omega)
      · exact .inr ⟨k, o'', r, h4, h5, h6.trans h3⟩

/-- A part of a run that touches a part of memory, seen with all of it. -/
theorem Ext.around {g g' : Mem} (H : Holds σ g w) (hs : ∀ i o, h i = some o → g i = some o) (e : Ext h n n' σ σ' h' w w')
    (hg' : ∀ i o, g' i = some o → h' i = some o ∨ (h' i = none ∧ h i = none ∧ g i = some o)) : Ext g n n' σ σ' g' w w' where
  le := e.le
  more := e.more
  off := e.off
  holds := Ext.beside H hs e hg'
  os := e.os
  tape := e.tape
  output := e.output
  size := e.size
  frame := fun b hb hn => e.frame b hb fun i o p hi hp => hn i o p (hs i o hi) hp
  live := fun i o hi => by
    rcases hg' i o hi with h1 | ⟨_, _, h3⟩
    · rcases e.live i o h1 with ⟨o', h2⟩ | h2
      · exact .inl ⟨o', hs i o' h2⟩
      · exact .inr h2
    · exact .inl ⟨o, h3⟩
  place := fun i o p hi hp => by
    rcases hg' i o hi with h1 | ⟨_, _, h3⟩
    · rcases e.place i o p h1 hp with h2 | ⟨j, oj, q, h4, h5, h6⟩
      · exact .inl h2
      · exact .inr ⟨j, oj, q, hs j oj h4, h5, h6⟩
    · obtain ⟨q, _, hq, _⟩ := H.lies i o h3
      have := e.more _ _ hq
      rw [hp] at this
      injection this with this
      exact .inr ⟨i, o, q, h3, hq, by rw [this]⟩
end

section
variable {P : Program} {F : Book} {ih : Rec} {ops : List Oper} {ms : List Nat} {lou : Nat}

theorem putV_get (ts : List Value) (d : Option Tmp) (v : Value) (x : Nat) (h : d ≠ some x) : (putV ts d v)[x]? = ts[x]? := by
  unfold putV
  cases d with
  | none => rfl
  | some d =>
    have : d ≠ x := fun e => h (by rw [e])
    simp [setF_eq, List.getElem?_set, this]
theorem putV_len (ts : List Value) (d : Option Tmp) (v : Value) : (putV ts d v).length = ts.length := by
  unfold putV; cases d <;> simp [setF_eq]
theorem putV_same (ts : List Value) (d : Nat) (v : Value) (h : d < ts.length) : (putV ts (some d) v)[d]? = some v := by
  simp [putV, setF_eq, h]
theorem dstIs_of {x i : Nat} {o : Oper} (ho : ops[i]? = some o) : dstIs ops x i = true ↔ o.dst = some x := by
  unfold dstIs
  rw [ho]
  simp only [Option.bind_some]
  cases o.dst with
  | none => simp
  | some d =>
    simp only [Option.some.injEq]
    constructor
    · exact fun h => Nat.eq_of_beq_eq_true h
    · exact fun h => beqT h

/-- Is a block made here? -/
def newAt (ops : List Oper) (i : Nat) (S : DS) : Bool :=
  match ops[i]? with
  | some o => wantedV ops S.ts o && isNew o
  | none => false

/-- What a step of the reckoning may be. -/
theorem dstep_cases {i : Nat} {S S' : DS} (h : dstep P F ih ops ms lou i S = .ok S') : ∃ o, ops[i]? = some o ∧
    ((wantedV ops S.ts o = true ∧ isNew o = true ∧ ∃ N, evNew P (envO S.ts (tmpsOf ops o)) o = some N ∧ S.n < top ∧
        S' = { ts := putV S.ts o.dst (N.sh.val S.n), t := Tr.set 24 S.t S.n (some (.cells N.cs N.e 0)), n := S.n + 1, lm := S.lm, hist := (S.lm, S.n + 1, Tr.set 24 S.t S.n (some (.cells N.cs N.e 0))) :: S.hist, news := (i, S.n, .cells N.cs N.e 0) :: S.news }) ∨
     (wantedV ops S.ts o = true ∧ isNew o = false ∧ isLoud o = true ∧ ∃ v t' n', evOp P F ih (envO S.ts (tmpsOf ops o)) o S.t S.n = .ok (v, t', n') ∧ S.n ≤ n' ∧
        S' = { ts := putV S.ts o.dst v, t := t', n := n', lm := S.lm ||| 2 ^ i, hist := (S.lm ||| 2 ^ i, n', t') :: S.hist, news := S.news }) ∨
     (wantedV ops S.ts o = true ∧ isNew o = false ∧ isLoud o = false ∧ ∃ v, evSame P (envO S.ts (tmpsOf ops o)) S.t o = some v ∧ held P o (tmpsOf ops o) S.ts (ms.getD i 0) lou S.news v S.hist = true ∧
        S' = { S with ts := putV S.ts o.dst v }) ∨
     (wantedV ops S.ts o = false ∧ isLoud o = true ∧ S' = { S with ts := putV S.ts o.dst undef, lm := S.lm ||| 2 ^ i, hist := (S.lm ||| 2 ^ i, S.n, S.t) :: S.hist }) ∨
     (wantedV ops S.ts o = false ∧ isLoud o = false ∧ S' = { S with ts := putV S.ts o.dst undef })) := by
  unfold dstep at h
  split at h
  · cases h
  rename_i o ho
  refine ⟨o, ho, ?_⟩
  dsimp only at h
  cases hw : wantedV ops S.ts o with
  | true =>
    rw [hw, cond_true] at h
    cases hn : isNew o with
    | true =>
      rw [hn, cond_true] at h
      split at h
      case h_2 => cases h
      rename_i N hN
      cases hb : Nat.blt S.n top with
      | false => rw [hb] at h; cases h
      | true =>
        rw [hb, cond_true] at h
        cases h
        exact .inl ⟨rfl, rfl, N, hN, Nat.le_of_ble_eq_true hb, rfl⟩
    | false =>
      rw [hn, cond_false] at h
      cases hl : isLoud o with
      | true =>
        rw [hl, cond_true] at h
        split at h
        case h_2 => cases h
        rename_i v t' n' hc
        cases h
        unfold chk at hc
        split at hc
        case h_2 => cases hc
        rename_i v2 t2 n2 hop
        cases hle : Nat.ble S.n n2 with
        | false => rw [hle] at hc; cases hc
        | true =>
          rw [hle, cond_true] at hc
          cases hc
          exact .inr (.inl ⟨rfl, rfl, rfl, v, t', n', hop, Nat.le_of_ble_eq_true hle, rfl⟩)
      | false =>
        rw [hl, cond_false] at h
        split at h
        case h_2 => cases h
        rename_i v hv
        cases hh : held P o (tmpsOf ops o) S.ts (ms.getD i 0) lou S.news v S.hist with
        | false => rw [hh] at h; cases h
        | true =>
          rw [hh, cond_true] at h
          cases h
          exact .inr (.inr (.inl ⟨rfl, rfl, rfl, v, hv, hh, rfl⟩))
  | false =>
    rw [hw, cond_false] at h
    cases h
    cases hl : isLoud o with
    | true => exact .inr (.inr (.inr (.inl ⟨rfl, rfl, rfl⟩)))
    | false => exact .inr (.inr (.inr (.inr ⟨rfl, rfl, rfl⟩)))

/-- What all steps have in common. -/
theorem dstep_all {i : Nat} {S S' : DS} (h : dstep P F ih ops ms lou i S = .ok S') : S.n ≤ S'.n ∧ S'.ts.length = S.ts.length ∧ (∀ x, dstIs ops x i = false → S'.ts[x]? = S.ts[x]?) ∧ (∀ e ∈ S.hist, e ∈ S'.hist) ∧
    ((S.lm, S.n, S.t) ∈ S.hist → (S'.lm, S'.n, S'.t) ∈ S'.hist) ∧ (∀ j, Nat.testBit S.lm j = true → Nat.testBit S'.lm j = true) := by
  obtain ⟨o, ho, hc⟩ := dstep_cases h
  have hx : ∀ x, dstIs ops x i = false → o.dst ≠ some x := fun x hx hd => by rw [(dstIs_of ho).2 hd] at hx; cases hx
  have hbit : ∀ j, Nat.testBit S.lm j = true → Nat.testBit (S.lm ||| 2 ^ i) j = true := fun j hj => by rw [tb_or, hj]; rfl
  rcases hc with ⟨_, _, N, _, _, rfl⟩ | ⟨_, _, _, v, t', n', _, hle, rfl⟩ | ⟨_, _, _, v, _, _, rfl⟩ | ⟨_, _, rfl⟩ | ⟨_, _, rfl⟩
  · exact ⟨Nat.le_succ _, putV_len .., fun x h => putV_get _ _ _ _ (hx x h), fun e he => List.mem_cons_of_mem _ he, fun _ => List.mem_cons_self, fun _ h => h⟩
  · exact ⟨hle, putV_len .., fun x h => putV_get _ _ _ _ (hx x h), fun e he => List.mem_cons_of_mem _ he, fun _ => List.mem_cons_self, hbit⟩
  · exact ⟨Nat.le_refl _, putV_len .., fun x h => putV_get _ _ _ _ (hx x h), fun e he => he, fun h => h, fun _ h => h⟩
  · exact ⟨Nat.le_refl _, putV_len .., fun x h => putV_get _ _ _ _ (hx x h), fun e he => List.mem_cons_of_mem _ he, fun _ => List.mem_cons_self, hbit⟩
  · exact ⟨Nat.le_refl _, putV_len .., fun x h => putV_get _ _ _ _ (hx x h), fun e he => he, fun h => h, fun _ h => h⟩

/-- What is told of new blocks. -/
theorem dstep_news {i : Nat} {S S' : DS} (h : dstep P F ih ops ms lou i S = .ok S') (hn : ∀ e k o, (e, k, o) ∈ S.news → k < S.n) : (∀ e k o, (e, k, o) ∈ S'.news → k < S'.n) ∧
    ∀ e k o, (e, k, o) ∈ S'.news → (e, k, o) ∈ S.news ∨ (e = i ∧ k = S.n ∧ newAt ops i S = true ∧ S'.t.mem S.n = some o) := by
  obtain ⟨o, ho, hc⟩ := dstep_cases h
  rcases hc with ⟨b1, b2, N, _, htop, rfl⟩ | ⟨_, _, _, v, t', n', _, hle, rfl⟩ | ⟨_, _, _, v, _, _, rfl⟩ | ⟨_, _, rfl⟩ | ⟨_, _, rfl⟩
  · refine ⟨fun e k o' hm => ?_, fun e k o' hm => ?_⟩
    · rcases List.mem_cons.1 hm with he | hm
      · cases he; exact Nat.lt_succ_self _
      · exact Nat.lt_succ_of_lt (hn e k o' hm)
    · rcases List.mem_cons.1 hm with he | hm
      · cases he
        refine .inr ⟨rfl, rfl, by unfold newAt; rw [ho]; simp [b1, b2], ?_⟩
        dsimp only
        rw [Tr.mem_set htop]
        simp
      · exact .inl hm
  · exact ⟨fun e k o' hm => Nat.lt_of_lt_of_le (hn e k o' hm) hle, fun e k o' hm => .inl hm⟩
  · exact ⟨hn, fun e k o' hm => .inl hm⟩
  · exact ⟨hn, fun e k o' hm => .inl hm⟩
  · exact ⟨hn, fun e k o' hm => .inl hm⟩

theorem evDr_cons {i : Nat} {R : List Nat} {S Sf : DS} (h : evDr P F ih ops ms lou (i :: R) S = .ok Sf) : ∃ S', dstep P F ih ops ms lou i S = .ok S' ∧ evDr P F ih ops ms lou R S' = .ok Sf := by
  simp only [evDr] at h
  split at h
  · rename_i S' hS; exact ⟨S', hS, h⟩
  · cases h

theorem evDr_all : ∀ {R : List Nat} {S Sf : DS}, evDr P F ih ops ms lou R S = .ok Sf → S.n ≤ Sf.n ∧ Sf.ts.length = S.ts.length ∧ ∀ x, (∀ j ∈ R, dstIs ops x j = false) → Sf.ts[x]? = S.ts[x]?
  | [], S, Sf, h => by cases h; exact ⟨Nat.le_refl _, rfl, fun _ _ => rfl⟩
  | i :: R, S, Sf, h => by
    obtain ⟨S', h1, h2⟩ := evDr_cons h
    obtain ⟨a1, a2, a3, _⟩ := dstep_all h1
    obtain ⟨b1, b2, b3⟩ := evDr_all h2
    exact ⟨by omega, b2.trans a2, fun x hx => (b3 x fun j hj => hx j (List.mem_cons_of_mem _ hj)).trans (a3 x (hx i List.mem_cons_self))⟩

/-- The blocks that operations ahead of their turn have made. -/
def exM (P : Program) (F : Book) (ih : Rec) (ops : List Oper) (ms : List Nat) (lou : Nat) (L : Nat → Bool) : List Nat → DS → Mem
  | [], _ => fun _ => none
  | i :: R, S => match dstep P F ih ops ms lou i S with
    | .ok S' => fun j => if L i = true ∧ newAt ops i S = true ∧ j = S.n then S'.t.mem j else exM P F ih ops ms lou L R S' j
    | .error _ => fun _ => none

theorem exM_cons {L : Nat → Bool} {i : Nat} {R : List Nat} {S S' : DS} (h : dstep P F ih ops ms lou i S = .ok S') :
    exM P F ih ops ms lou L (i :: R) S = fun j => if L i = true ∧ newAt ops i S = true ∧ j = S.n then S'.t.mem j else exM P F ih ops ms lou L R S' j := by
  simp only [exM, h]

theorem newAt_n {i : Nat} {S S' : DS} (h : dstep P F ih ops ms lou i S = .ok S') (hn : newAt ops i S = true) : ∃ o N, ops[i]? = some o ∧ wantedV ops S.ts o = true ∧ isNew o = true ∧ evNew P (envO S.ts (tmpsOf ops o)) o = some N ∧ S.n < top ∧
    S' = { ts := putV S.ts o.dst (N.sh.val S.n), t := Tr.set 24 S.t S.n (some (.cells N.cs N.e 0)), n := S.n + 1, lm := S.lm, hist := (S.lm, S.n + 1, Tr.set 24 S.t S.n (some (.cells N.cs N.e 0))) :: S.hist, news := (i, S.n, .cells N.cs N.e 0) :: S.news } := by
  obtain ⟨o, ho, hc⟩ := dstep_cases h
  unfold newAt at hn
  rw [ho] at hn
  simp only [Bool.and_eq_true] at hn
  rcases hc with ⟨a, b, N, c, d, e⟩ | ⟨a, b, _⟩ | ⟨a, b, _⟩ | ⟨a, _⟩ | ⟨a, _⟩
  · exact ⟨o, N, ho, a, b, c, d, e⟩
  · rw [hn.2] at b; cases b
  · rw [hn.2] at b; cases b
  · rw [hn.1] at a; cases a
  · rw [hn.1] at a; cases a

theorem exM_dom {L : Nat → Bool} : ∀ {R : List Nat} {S Sf : DS}, evDr P F ih ops ms lou R S = .ok Sf → ∀ j o, exM P F ih ops ms lou L R S j = some o → S.n ≤ j ∧ j < Sf.n
  | [], S, Sf, h, j, o, hj => by simp [exM] at hj
  | i :: R, S, Sf, h, j, o, hj => by
    obtain ⟨S', h1, h2⟩ := evDr_cons h
    rw [exM_cons h1] at hj
    dsimp only at hj
    split at hj
    · rename_i hc
      obtain ⟨o', N, _, _, _, _, _, e⟩ := newAt_n h1 hc.2.1
      have := (evDr_all h2).1
      rw [e] at this
      dsimp only at this
      omega
    · have := exM_dom h2 j o hj
      have := (dstep_all h1).1
      omega

theorem exM_congr {L L' : Nat → Bool} : ∀ {R : List Nat} {S Sf : DS}, evDr P F ih ops ms lou R S = .ok Sf → (∀ i ∈ R, L i = L' i) → exM P F ih ops ms lou L R S = exM P F ih ops ms lou L' R S
  | [], S, Sf, h, hL => rfl
  | i :: R, S, Sf, h, hL => by
    obtain ⟨S', h1, h2⟩ := evDr_cons h
    rw [exM_cons h1, exM_cons h1, hL i List.mem_cons_self, exM_congr h2 fun j hj => hL j (List.mem_cons_of_mem _ hj)]

def setL (L : Nat → Bool) (i : Nat) : Nat → Bool := fun k => if k = i then true else L k

/-- An operation's own turn. -/
structure AtI (P : Program) (F : Book) (ih : Rec) (ops : List Oper) (ms : List Nat) (lou size : Nat) (Sf : DS) (R : List Nat) (S : DS) (done : Nat) (i : Nat) (L : Nat → Bool) (R2 : List Nat) (Si Sj : DS) (di : Nat) : Prop where
  step : dstep P F ih ops ms lou i Si = .ok Sj
  ev : evDr P F ih ops ms lou R2 Sj = .ok Sf
  ord : ordOK ops ms size (i :: R2) di = true
  n : S.n ≤ Si.n
  hist : ∀ e ∈ S.hist, e ∈ Si.hist
  bits : ∀ j, Nat.testBit done j = true → Nat.testBit di j = true
  ts : ∀ x, (∀ j, Nat.testBit di j = true → Nat.testBit done j = false → dstIs ops x j = false) → Si.ts[x]? = S.ts[x]?
  head : ∀ a R', R = a :: R' → a ≠ i → Nat.testBit di a = true
  none : newAt ops i Si = true → exM P F ih ops ms lou L R S Si.n = none
  news : ∀ e k o, (e, k, o) ∈ Si.news → S.n ≤ k → L e = true → exM P F ih ops ms lou L R S k = some o
  news2 : ∀ e k o, (e, k, o) ∈ Si.news → (e, k, o) ∈ S.news ∨ S.n ≤ k
  set : exM P F ih ops ms lou (setL L i) R S = fun j => if newAt ops i Si = true ∧ j = Si.n then Sj.t.mem j else exM P F ih ops ms lou L R S j

theorem at_turn {size : Nat} {L : Nat → Bool} {i : Nat} (hLi : L i = false) {Sf : DS} : ∀ {R : List Nat} {S : DS} {done : Nat}, (∀ e k o, (e, k, o) ∈ S.news → k < S.n) → evDr P F ih ops ms lou R S = .ok Sf → ordOK ops ms size R done = true → i ∈ R →
    ∃ R2 Si Sj di, AtI P F ih ops ms lou size Sf R S done i L R2 Si Sj di
  | [], S, done, hns, h, ho, hi => by simp at hi
  | a :: R, S, done, hns, h, ho, hi => by
    obtain ⟨S', h1, h2⟩ := evDr_cons h
    have hnd := ordOK_nodup ho
    by_cases hai : a = i
    · subst hai
      refine ⟨R, S, S', done, h1, h2, ho, Nat.le_refl _, fun _ h => h, fun _ h => h, fun _ _ => rfl, fun b R' he hb => by cases he; exact absurd rfl hb, fun hn => ?_, fun e k o hm hk => absurd (hns e k o hm) (by omega), fun e k o hm => .inl hm, ?_⟩
      · rw [exM_cons h1]
        dsimp only
        rw [if_neg (by rw [hLi]; simp)]
        cases hx : exM P F ih ops ms lou L R S' S.n with
        | none => rfl
        | some o =>
          obtain ⟨o', N, _, _, _, _, _, e⟩ := newAt_n h1 hn
          have := (exM_dom h2 _ _ hx).1
          rw [e] at this
          dsimp only at this
          omega
      · rw [exM_cons h1, exM_cons h1]
        have : exM P F ih ops ms lou (setL L a) R S' = exM P F ih ops ms lou L R S' := exM_congr h2 fun j hj => by
          unfold setL
          have hja : j ≠ a := fun h => by rw [h] at hj; exact hnd hj
          rw [if_neg hja]
        rw [this]
        funext j
        have hs : setL L a a = true := by simp [setL]
        rw [hs, hLi]
        by_cases hc : newAt ops a S = true ∧ j = S.n
        · rw [if_pos ⟨rfl, hc⟩, if_pos hc]
        · rw [if_neg fun h => hc h.2, if_neg hc]
          dsimp only
          rw [if_neg (by simp)]
    · have hiR : i ∈ R := by
        rcases List.mem_cons.1 hi with h | h
        · exact absurd h.symm hai
        · exact h
      obtain ⟨o, g1, g2, g3, g4, g5, g6, g7, g8⟩ := ordOK_cons ho
      obtain ⟨hns', hns2⟩ := dstep_news h1 hns
      obtain ⟨R2, Si, Sj, di, A⟩ := at_turn hLi hns' h2 g8 hiR
      obtain ⟨a1, a2, a3, a4, a5, a6⟩ := dstep_all h1
      have hda : Nat.testBit di a = true := A.bits a (by rw [tb_or, tb_pow]; simp)
      refine ⟨R2, Si, Sj, di, A.step, A.ev, A.ord, Nat.le_trans a1 A.n, fun e he => A.hist e (a4 e he), fun j hj => A.bits j (by rw [tb_or, hj]; rfl), fun x hx => ?_, fun b R' he hb => by cases he; exact hda, fun hn => ?_, fun e k o hm hk hLe => ?_, fun e k o hm => ?_, ?_⟩
      · rw [A.ts x fun j hj hj2 => ?_]
        · exact a3 x (hx a hda g3)
        · rw [tb_or] at hj2
          simp only [Bool.or_eq_false_iff] at hj2
          exact hx j hj hj2.1
      · rw [exM_cons h1]
        dsimp only
        rw [if_neg, A.none hn]
        rintro ⟨_, hna, he⟩
        obtain ⟨o', N, _, _, _, _, _, e⟩ := newAt_n h1 hna
        have := A.n
        rw [e] at this
        dsimp only at this
        omega
      · rw [exM_cons h1]
        dsimp only
        rcases A.news2 e k o hm with hm' | hk'
        · rcases hns2 e k o hm' with hm'' | ⟨he, hk2, hna, hmem⟩
          · have := hns e k o hm''; omega
          · subst he; subst hk2
            rw [if_pos ⟨hLe, hna, rfl⟩, hmem]
        · rw [if_neg, A.news e k o hm hk' hLe]
          rintro ⟨_, hna, he⟩
          obtain ⟨o', N, _, _, _, _, _, e2⟩ := newAt_n h1 hna
          rw [e2] at hk'
          dsimp only at hk'
          omega
      · rcases A.news2 e k o hm with hm' | hk'
        · rcases hns2 e k o hm' with hm'' | ⟨he, hk2, hna, hmem⟩
          · exact .inl hm''
          · exact .inr (by omega)
        · exact .inr (by omega)
      · rw [exM_cons h1, exM_cons h1, A.set]
        have hs : setL L i a = L a := by simp [setL, hai]
        rw [hs]
        funext j
        by_cases hc : L a = true ∧ newAt ops a S = true ∧ j = S.n
        · rw [if_pos hc]
          have hne : ¬ (newAt ops i Si = true ∧ j = Si.n) := by
            rintro ⟨_, he⟩
            obtain ⟨o', N, _, _, _, _, _, e⟩ := newAt_n h1 hc.2.1
            have := A.n
            rw [e] at this
            dsimp only at this
            omega
          rw [if_neg hne]
          dsimp only
          rw [if_pos hc]
        · rw [if_neg hc]
          by_cases hn : newAt ops i Si = true ∧ j = Si.n
          · dsimp only
            rw [if_pos hn, if_pos hn]
          · dsimp only
            rw [if_neg hn, if_neg hn, if_neg hc]

end
end
end Ev
end Go.Proofs.YtgidmgkebkodoaaGreatDoor
