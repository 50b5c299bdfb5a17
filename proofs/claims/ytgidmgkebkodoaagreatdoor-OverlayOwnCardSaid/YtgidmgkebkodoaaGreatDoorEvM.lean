/- A run on closed data, reckoned by the kernel: where it is drawn what comes next of a map: all that may come of it. -/
import Derived.Test.YtgidmgkebkodoaaGreatDoorEv21
import Derived.Laws.NewFold
set_option linter.unusedSimpArgs false
set_option linter.unusedVariables false
set_option linter.unusedSectionVars false
namespace Go.Proofs.YtgidmgkebkodoaaGreatDoor
open Go.RowKit
namespace Ev
variable [Vars]
noncomputable section

abbrev Res := Value × Tr × Nat
abbrev OutL := Except String (List Res)
/-- What is deferred: the mark of a range loop, or a call. -/
inductive DV where
  | mark (r : Nat)
  | call (g : FuncId) (args : List Value)
abbrev RecL := FuncId → Option Nat → List Value → List Item → List DV → Tr → Nat → OutL

/-- Where but one thing may come of a run. -/
def one (ih : RecL) : Rec := fun f r ts td d t n => match ih f r ts td (d.map .mark) t n with
  | .ok [x] => .ok x
  | .ok _ => .error "more than one"
  | .error e => .error e
def ofOne (x : Out) : OutL := match x with
  | .ok y => .ok [y]
  | .error e => .error e

def bindL {α β : Type} (f : α → Except String (List β)) : List α → Except String (List β)
  | [] => .ok []
  | x :: l => match f x with
    | .ok a => match bindL f l with
      | .ok b => .ok (a ++ b)
      | .error e => .error e
    | .error e => .error e
/-- The same; where there is but one, by few steps. -/
def bind1 {α β : Type} (f : α → Except String (List β)) (l : List α) : Except String (List β) :=
  match l with
  | [x] => f x
  | _ => bindL f l
theorem bind1_eq {α β : Type} (f : α → Except String (List β)) (l : List α) : bind1 f l = bindL f l := by
  unfold bind1
  split
  · rename_i x
    simp only [bindL]
    split
    · rename_i a h; simp [h]
    · rename_i e h; simp [h]
  · rfl
theorem bindL_mem {α β : Type} {f : α → Except String (List β)} : ∀ {l : List α} {r : List β}, bindL f l = .ok r → (∀ x ∈ l, ∃ a, f x = .ok a ∧ ∀ y ∈ a, y ∈ r) ∧ ∀ y ∈ r, ∃ x ∈ l, ∃ a, f x = .ok a ∧ y ∈ a
  | [], r, h => by
    cases h
    exact ⟨fun x hx => by simp at hx, fun x hx => by simp at hx⟩
  | x :: l, r, h => by
    simp only [bindL] at h
    split at h
    case h_2 => cases h
    rename_i a ha
    split at h
    case h_2 => cases h
    rename_i b hb
    cases h
    obtain ⟨g1, g2⟩ := bindL_mem hb
    refine ⟨fun y hy => ?_, fun y hy => ?_⟩
    · rcases List.mem_cons.1 hy with rfl | hy
      · exact ⟨a, ha, fun z hz => List.mem_append_left _ hz⟩
      · obtain ⟨c, h1, h2⟩ := g1 y hy
        exact ⟨c, h1, fun z hz => List.mem_append_right _ (h2 z hz)⟩
    · rcases List.mem_append.1 hy with hy | hy
      · exact ⟨x, List.mem_cons_self, a, ha, hy⟩
      · obtain ⟨z, h1, c, h2, h3⟩ := g2 y hy
        exact ⟨z, List.mem_cons_of_mem _ h1, c, h2, h3⟩

/-- Something comes, and no name is lost. -/
def Up {α : Type} (n : Nat) (outs : List (α × Tr × Nat)) : Prop := outs ≠ [] ∧ ∀ x ∈ outs, n ≤ x.2.2
theorem Up.one {α : Type} {n : Nat} {x : α × Tr × Nat} (h : n ≤ x.2.2) : Up n [x] := ⟨by simp, fun y hy => by rw [List.mem_singleton.1 hy]; exact h⟩
theorem Up.bind {α β : Type} {n : Nat} {l : List (α × Tr × Nat)} {f : α × Tr × Nat → Except String (List (β × Tr × Nat))} {outs : List (β × Tr × Nat)} (hl : Up n l) (hf : ∀ x ∈ l, ∀ a, f x = .ok a → Up x.2.2 a) (h : bindL f l = .ok outs) :
    Up n outs ∧ ∀ N, (∀ y ∈ outs, y.2.2 ≤ N) → ∀ x ∈ l, x.2.2 ≤ N := by
  obtain ⟨m1, m2⟩ := bindL_mem h
  refine ⟨⟨?_, fun y hy => ?_⟩, fun N hN x hx => ?_⟩
  · obtain ⟨x, hx⟩ := List.exists_mem_of_ne_nil _ hl.1
    obtain ⟨a, ha, hay⟩ := m1 x hx
    obtain ⟨y, hy⟩ := List.exists_mem_of_ne_nil _ (hf x hx a ha).1
    exact List.ne_nil_of_mem (hay y hy)
  · obtain ⟨x, hx, a, ha, hya⟩ := m2 y hy
    exact Nat.le_trans (hl.2 x hx) ((hf x hx a ha).2 y hya)
  · obtain ⟨a, ha, hay⟩ := m1 x hx
    obtain ⟨y, hy⟩ := List.exists_mem_of_ne_nil _ (hf x hx a ha).1
    exact Nat.le_trans ((hf x hx a ha).2 y hy) (hN y (hay y hy))

/-! what comes next of a map -/
def nextOne (t : Tr) (r m since : Nat) (seen : List Nat) (clock : Nat) : Option MapEntry → Value × Tr
  | none => (.tuple #[.bool false], t)
  | some e => (.tuple #[.bool true, e.key, e.val], Tr.set 24 t r (some (.miter (some m) since (seen ++ [e.born]) clock)))
def evNexts (t : Tr) (x : Value) (str : Bool) : Option (List (Value × Tr)) :=
  match x with
  | .pointer (some ⟨r, 0, none⟩) => match t.mem r, str with
    | some (.miter (some m) since seen last), false => match t.mem m with
      | some (.map es clock) => bif gapOf es seen last then none else bif Nat.blt r top then some ((candOf es since seen).map (nextOne t r m since seen clock)) else none
      | _ => none
    | _, _ => none
  | _ => none
section
variable {P : Program} {σ : Sg} {w : World} {t : Tr} {n : Nat}
def CR (σ : Sg) (c c' : Option MapEntry) : Prop := c = none ∧ c' = none ∨ ∃ e e', c = some e ∧ c' = some e' ∧ VR σ e.key e'.key ∧ VR σ e.val e'.val ∧ e.born = e'.born
theorem MR.get {l l' : List MapEntry} (h : MR σ l l') : ∀ {i : Nat} {e' : MapEntry}, l'[i]? = some e' → ∃ e, l[i]? = some e ∧ VR σ e.key e'.key ∧ VR σ e.val e'.val ∧ e.born = e'.born := by
  induction h with
  | nil => intro i e' h; simp at h
  | cons hk hv hb hm ih =>
    intro i e' h
    cases i with
    | zero => simp at h; subst h; exact ⟨_, by simp, hk, hv, hb⟩
    | succ i => simp at h; simpa using ih h
theorem cands_rel {l l' : List MapEntry} (h : MR σ l l') (since : Nat) (seen : List Nat) : (0 < (candOf l' since seen).length) ∧
    ∀ (i : Nat) (c' : Option MapEntry), (candOf l' since seen)[i]? = some c' → ∃ c, (candOf l since seen)[i]? = some c ∧ CR σ c c' := by
  have h0 := h.filter fun b => !seen.contains b
  have h1 := h0.filter fun b => decide (b < since)
  have h2 := h0.filter fun b => decide (b ≥ since)
  unfold candOf
  dsimp only
  generalize (List.filter (fun e => decide (e.born < since)) (List.filter (fun e => !seen.contains e.born) l)) = a at h1
  generalize (List.filter (fun e => decide (e.born < since)) (List.filter (fun e => !seen.contains e.born) l')) = a' at h1
  generalize (List.filter (fun e => decide (e.born ≥ since)) (List.filter (fun e => !seen.contains e.born) l)) = b at h2
  generalize (List.filter (fun e => decide (e.born ≥ since)) (List.filter (fun e => !seen.contains e.born) l')) = b' at h2
  have h3 := h1.append h2
  have key : ∀ (i : Nat) (c' : Option MapEntry), ((a' ++ b').map some)[i]? = some c' → ∃ c, ((a ++ b).map some)[i]? = some c ∧ CR σ c c' := by
    intro i c' hc
    rw [List.getElem?_map, Option.map_eq_some_iff] at hc
    obtain ⟨e', he, rfl⟩ := hc
    obtain ⟨e, g1, g2, g3, g4⟩ := h3.get he
    exact ⟨some e, by rw [List.getElem?_map, g1]; rfl, .inr ⟨e, e', rfl, rfl, g2, g3, g4⟩⟩
  cases h1 with
  | nil =>
    refine ⟨by simp, fun i c' hc => ?_⟩
    cases i with
    | zero => simp at hc; subst hc; exact ⟨none, by simp, .inl ⟨rfl, rfl⟩⟩
    | succ i =>
      have := key i c' (by simpa using hc)
      simpa using this
  | cons hk hv hb hm =>
    refine ⟨by simp, fun i c' hc => ?_⟩
    have := key i c' (by simpa using hc)
    simpa using this

theorem run_chooseN (m : Nat) (hm : 0 < m) : ∃ i w', i < m ∧ (w' = w ∨ w' = w.drew) ∧ (choose (.mapNext m)).run P w = .ok i w' := by
  rw [run_choose_drew]
  by_cases hf : (Question.mapNext m).forced = true
  · rw [if_pos hf]; exact ⟨0, w, hm, .inl rfl, rfl⟩
  · rw [if_neg hf]; exact ⟨_, w.drew, Nat.mod_lt _ hm, .inr rfl, rfl⟩
theorem evNexts_ok {x x' : Value} {str : Bool} {ty : TypeId} {l : List (Value × Tr)} (H : Holds σ t.mem w) (hx : VR σ x x') (h : evNexts t x str = some l) :
    ∃ y ∈ l, ∃ w' v', Ext t.mem n n σ σ y.2.mem w w' ∧ VR σ y.1 v' ∧ (Instr.next x' str ty).run P w = .ok v' w' := by
  have over : VR σ (.tuple #[.bool false]) (.tuple #[.bool false]) := plain_rel 4 _ rfl
  unfold evNexts at h
  split at h
  case h_2 => cases h
  rename_i r
  obtain ⟨p, hp, rfl⟩ := hx.addr
  split at h
  case h_2 => cases h
  rename_i m since seen last hm
  split at h
  case h_2 => cases h
  rename_i es clock hes
  obtain ⟨q, ob, k1, k2, k3⟩ := H.lies _ _ hm
  rw [hp] at k1; cases k1
  cases k3 with
  | miter m qm hqm a l b p hb =>
  rw [hb]
  obtain ⟨q2, ob2, j1, j2, j3⟩ := H.lies _ _ hes
  rw [hqm] at j1; cases j1
  cases j3 with
  | map es es' clock qm hmr =>
  cases hg : gapOf es seen last with
  | true => rw [hg] at h; cases h
  | false =>
  rw [hg, cond_false] at h
  cases hrt : Nat.blt r top with
  | false => rw [hrt] at h; cases h
  | true =>
  rw [hrt, cond_true, Option.some.injEq] at h
  subst h
  have hg' := hmr.gap seen last
  rw [hg] at hg'
  have hgm : (!seen.toArray.isEmpty && !es'.toArray.isEmpty && es'.toArray.all fun e => decide (e.born ≥ last)) = false := by
    simpa [gapOf] using hg'
  obtain ⟨c1, c2⟩ := cands_rel hmr since seen
  have hcs := cands_list es' since seen
  generalize hcl : candOf es' since seen = cl at hcs c1 c2
  obtain ⟨i, w1, hi, hw1, hch⟩ := run_chooseN (P := P) (w := w) cl.length c1
  obtain ⟨c, hc1, hc2⟩ := c2 i cl[i] (List.getElem?_eq_getElem hi)
  have hw1h : w1.heap = w.heap := by rcases hw1 with rfl | rfl <;> rfl
  have hdraw : ∀ {g' : Mem} {w2 : World}, Ext t.mem n n σ σ g' w1 w2 → Ext t.mem n n σ σ g' w w2 := by
    intro g' w2 e
    rcases hw1 with rfl | rfl
    · exact e
    · exact ⟨e.le, e.more, e.off, e.holds, e.os, e.tape, e.output, e.size, e.frame, e.live, e.place⟩
  have H1 : Holds σ t.mem w1 := by
    rcases hw1 with rfl | rfl
    · exact H
    · exact H.drew
  refine ⟨nextOne t r m since seen clock c, List.mem_map.2 ⟨c, List.mem_of_getElem? hc1, rfl⟩, ?_⟩
  have hst : ∀ (f : Option (Option MapEntry) → Sem Value), (do let k ← choose (.mapNext cl.toArray.size); f cl.toArray[k]? : Sem Value).run P w = (f (some cl[i])).run P w1 := by
    intro f
    rw [Sem.run_bind, List.size_toArray, hch, Result.andThen_ok]
    congr 2
    simp [hi]
  rcases hc2 with ⟨rfl, hcn⟩ | ⟨e, e', rfl, hce, d2, d3, d4⟩
  · refine ⟨w1, _, hdraw (Ext.refl H1), over, ?_⟩
    simp only [Instr.next, Sem.run_bind, run_getObj_any k2 (by simp), Result.andThen_ok, run_getObj_any j2 (by simp), hgm, hcs]
    rw [if_neg (by decide)]
    have := hst (fun o => match o with | some (some e) => do { setObj p.blk (Obj.mapIter (some qm.blk) since (seen.toArray.push e.born) clock); pure (Value.tuple #[Value.bool true, e.key, e.val]) } | some none => pure (.tuple #[.bool false]) | none => stuck "Next: no such candidate")
    rw [hcn] at this
    exact this
  · have hm1 : w1.heap[p.blk]? = some (.mapIter (some qm.blk) since seen.toArray last) := by rw [hw1h]; exact k2
    have e1 := Ext.setObj (n := n) H1 hm hp (o' := .miter (some m) since (seen ++ [e.born]) clock) (x' := .mapIter (some qm.blk) since (seen ++ [e.born]).toArray clock) (.miter m qm hqm since (seen ++ [e.born]) clock p hb)
    refine ⟨_, .tuple #[.bool true, e'.key, e'.val], by simp only [nextOne]; rw [Tr.mem_set (Nat.le_of_ble_eq_true hrt)]; exact hdraw e1, VR.mkTuple (LR.cons (.bool true) (LR.cons d2 (LR.cons d3 LR.nil))), ?_⟩
    simp only [Instr.next, Sem.run_bind, run_getObj_any k2 (by simp), Result.andThen_ok, run_getObj_any j2 (by simp), hgm, hcs]
    rw [if_neg (by decide)]
    have := hst (fun o => match o with | some (some e) => do { setObj p.blk (Obj.mapIter (some qm.blk) since (seen.toArray.push e.born) clock); pure (Value.tuple #[Value.bool true, e.key, e.val]) } | some none => pure (.tuple #[.bool false]) | none => stuck "Next: no such candidate")
    rw [hce] at this
    refine Eq.trans this ?_
    simp only
    rw [Sem.run_bind, run_setObj_any _ hm1 (by simp), d4]
    simp
end

/-! calls that have been reckoned before -/
/-- What a call came to: its arguments, the first free name, the memory that it knew, and what came of it (of memory what is of use). -/
structure Memo where
  args : List Value
  n : Nat
  dom : List (Nat × VO)
  outs : List (Value × List (Nat × VO) × Nat)
def memOf : List (Nat × VO) → Mem
  | [] => fun _ => none
  | (a, o) :: l => fun i => if i = a then some o else memOf l i
def setsT : List (Nat × VO) → Tr → Tr
  | [], t => t
  | (a, o) :: l, t => Tr.set 24 (setsT l t) a (some o)
def dropT : List (Nat × VO) → Tr → Tr
  | [], t => t
  | (a, _) :: l, t => Tr.set 24 (dropT l t) a none
def idsIn (l : List (Nat × VO)) : Bool := l.all fun x => Nat.blt x.1 top
theorem setsT_mem : ∀ {l : List (Nat × VO)} {t : Tr}, idsIn l = true → ∀ i, (setsT l t).mem i = (match memOf l i with | some o => some o | none => t.mem i)
  | [], t, _, i => rfl
  | (a, o) :: l, t, h, i => by
    simp only [idsIn, List.all_cons, Bool.and_eq_true] at h
    have ha : a < top := Nat.le_of_ble_eq_true h.1
    simp only [setsT, memOf]
    rw [Tr.mem_set ha]
    by_cases he : i = a
    · simp [he]
    · simp only [if_neg he]; exact setsT_mem h.2 i
theorem dropT_mem : ∀ {l : List (Nat × VO)} {t : Tr}, idsIn l = true → ∀ i, (dropT l t).mem i = (match memOf l i with | some _ => none | none => t.mem i)
  | [], t, _, i => rfl
  | (a, o) :: l, t, h, i => by
    simp only [idsIn, List.all_cons, Bool.and_eq_true] at h
    have ha : a < top := Nat.le_of_ble_eq_true h.1
    simp only [dropT, memOf]
    rw [Tr.mem_set ha]
    by_cases he : i = a
    · simp [he]
    · simp only [if_neg he]; exact dropT_mem h.2 i
def entEq (a b : MapEntry) : Bool := valEq 60 a.key b.key && valEq 60 a.val b.val && Nat.beq a.born b.born
def entsEq : List MapEntry → List MapEntry → Bool
  | [], [] => true
  | a :: l, b :: m => entEq a b && entsEq l m
  | _, _ => false
theorem entsEq_ok : ∀ {l m : List MapEntry}, entsEq l m = true → l = m
  | [], [], _ => rfl
  | ⟨k, v, b⟩ :: l, ⟨k', v', b'⟩ :: m, h => by
    simp only [entsEq, entEq, Bool.and_eq_true] at h
    rw [valEq_ok 60 _ _ h.1.1.1, valEq_ok 60 _ _ h.1.1.2, Nat.eq_of_beq_eq_true h.1.2, entsEq_ok h.2]
  | [], _ :: _, h => by simp [entsEq] at h
  | _ :: _, [], h => by simp [entsEq] at h
def voEq : VO → VO → Bool
  | .cells c e s, .cells d f u => listEq (valEq 60) c d && Nat.beq e f && Nat.beq s u
  | .map l c, .map m d => entsEq l m && Nat.beq c d
  | _, _ => false
theorem voEq_ok {a b : VO} (h : voEq a b = true) : a = b := by
  unfold voEq at h
  split at h
  · simp only [Bool.and_eq_true] at h
    rw [listEq_ok (valEq_ok 60) _ _ h.1.1, Nat.eq_of_beq_eq_true h.1.2, Nat.eq_of_beq_eq_true h.2]
  · simp only [Bool.and_eq_true] at h
    rw [entsEq_ok h.1, Nat.eq_of_beq_eq_true h.2]
  · cases h
/-- Does memory hold all of these? -/
def holdsT (t : Tr) (l : List (Nat × VO)) : Bool := l.all fun x => match t.mem x.1 with | some o => voEq x.2 o | none => false
theorem holdsT_ok {t : Tr} {l : List (Nat × VO)} (h : holdsT t l = true) {i : Nat} {o : VO} (hi : memOf l i = some o) : t.mem i = some o := by
  induction l with
  | nil => simp [memOf] at hi
  | cons x l ih =>
    obtain ⟨a, o'⟩ := x
    simp only [holdsT, List.all_cons, Bool.and_eq_true] at h
    simp only [memOf] at hi
    by_cases he : i = a
    · rw [if_pos he] at hi
      cases hi
      have h1 := h.1
      split at h1
      · rename_i o2 ho2
        rw [he, ho2, voEq_ok h1]
      · cases h1
    · rw [if_neg he] at hi
      exact ih h.2 hi
def memoFind : List Memo → List Value → Tr → Nat → Option (List Res)
  | [], _, _, _ => none
  | m :: ms, args, t, n => bif Nat.beq m.n n && listEq (valEq 60) m.args args && holdsT t m.dom && idsIn m.dom && m.outs.all (fun y => idsIn y.2.1) then
      some (m.outs.map fun y => (y.1, setsT y.2.1 (dropT m.dom t), y.2.2))
    else memoFind ms args t n

/-! what a call may come to, made one -/
def idsV : Nat → Value → List Nat
  | _, .pointer (some a) => [a.block]
  | _, .slice (some a) _ _ => [a.block]
  | _, .map (some r) => [r]
  | _, .func (.yield l) _ _ => [l]
  | f + 1, .func _ _ cs => cs.toList.flatMap (idsV f)
  | f + 1, .iface _ v => idsV f v
  | f + 1, .agg cs => cs.toList.flatMap (idsV f)
  | f + 1, .tuple cs => cs.toList.flatMap (idsV f)
  | _, _ => []
def idsVO : VO → List Nat
  | .cells c _ _ => c.flatMap (idsV 60)
  | .map l _ => l.flatMap fun e => idsV 60 e.key ++ idsV 60 e.val
  | _ => []
/-- What can be reached. -/
def reach : Nat → Tr → List Nat → List (Nat × VO) → Option (List (Nat × VO))
  | 0, _, _, _ => none
  | _ + 1, _, [], seen => some seen
  | f + 1, t, i :: rest, seen => bif memN i (seen.map (·.1)) then reach f t rest seen else match t.mem i with
    | some o => reach f t (idsVO o ++ rest) ((i, o) :: seen)
    | none => none
/-- A call in what it can reach; if more than one thing may come of it, and these are alike but for what can't be reached, one. -/
def evCut (run : List Value → Tr → Nat → OutL) (args : List Value) (t : Tr) (n : Nat) : OutL :=
  match reach 10000 t (args.flatMap (idsV 60)) [] with
  | none => .error "cut: arguments"
  | some dom => bif holdsT t dom && idsIn dom then
      match run args (setsT dom .nil) n with
      | .ok ((v, t1, n1) :: l) => match reach 10000 t1 (idsV 60 v ++ dom.map (·.1)) [] with
        | some lst => bif idsIn lst && ((v, t1, n1) :: l).all (fun x => valEq 60 x.1 v && Nat.beq x.2.2 n1 && holdsT x.2.1 lst) then .ok [(v, setsT lst (dropT dom t), n1)] else .error "cut: unlike"
        | none => .error "cut: what came"
      | .ok [] => .error "cut"
      | .error e => .error e
    else .error "cut: memory"

def lookA : List (List Value × Value) → List Value → Option Value
  | [], _ => none
  | (a, v) :: l, args => bif listEq (valEq 60) a args then some v else lookA l args
theorem lookA_mem : ∀ {l : List (List Value × Value)} {args : List Value} {v : Value}, lookA l args = some v → (args, v) ∈ l
  | [], _, _, h => by cases h
  | (a, b) :: l, args, v, h => by
    simp only [lookA] at h
    cases hb : listEq (valEq 60) a args with
    | true =>
      rw [hb, cond_true, Option.some.injEq] at h
      have := listEq_ok (valEq_ok 60) _ _ hb
      subst this; subst h
      exact List.mem_cons_self
    | false => rw [hb, cond_false] at h; exact List.mem_cons_of_mem _ (lookA_mem h)

section
variable (P : Program) (F : Book) (M : FuncId → List Memo) (C : FuncId → Bool) (ih : RecL)

def evCallL (g : FuncId) (args : List Value) (t : Tr) (n : Nat) : OutL :=
  match F g with
  | some row => match row.ovl with
    | none => bif row.sure && args.isEmpty then .ok [(.bool true, t, n)] else match row.made with
      | some l => bif args.isEmpty && Nat.blt n top then .ok [(.map (some n), Tr.set 24 t n (some (.pmap l)), n + 1)] else .error "made"
      | none => match lookA row.ans args with
        | some v => .ok [(v, t, n)]
        | none => match memoFind (M g) args t n with
          | some outs => .ok outs
          | none => bif C g then evCut (fun args t n => ih g none (args ++ List.replicate (row.ntmps - args.length) undef) [.code row.body] [] t n) args t n
            else ih g none (args ++ List.replicate (row.ntmps - args.length) undef) [.code row.body] [] t n
    | some _ => .error "overlaps"
  | none => .error "no such function"

def evYieldL (r : Env) (o : Oper) (t : Tr) (n : Nat) : OutL :=
  match o.op with
  | .call c => match c.callee with
    | .value f => match r f, envAll r c.args.toList with
      | some (.func (.yield l) _ _), some args => match t.mem l with
        | some (.loop lp) => bif Nat.beq args.length lp.params.toList.length then
            ih lp.fn (some l) (setAll lp.params.toList args lp.tmps.toList) [.code lp.assign, .beginRound, .code lp.body] [] t n
          else .error "yield"
        | _ => .error o.pos
      | _, _ => .error o.pos
    | _ => .error o.pos
  | _ => .error o.pos

def evNextsO (r : Env) (o : Oper) (t : Tr) : Option (List (Value × Tr)) :=
  match o.op with
  | .next x str => match r x with
    | some v => evNexts t v str
    | none => none
  | _ => none

/-- recover, where nothing panics. -/
def isRecover (o : Oper) : Bool :=
  match o.op with
  | .call c => match c.callee with
    | .builtin .recover => true
    | _ => false
  | _ => false
/-- A call that is deferred. -/
def evDefer (r : Env) (o : Oper) : Option DV :=
  match o.op with
  | .defer c => match c.callee with
    | .value f => match r f, envAll r c.args.toList with
      | some (.func (.func g) _ caps), some args => some (.call g (args ++ caps.toList))
      | _, _ => none
    | _ => none
  | _ => none

def evOpL (rnd : Option Nat) (r : Env) (o : Oper) (t : Tr) (n : Nat) : OutL :=
  match ev1 P F r o t n with
  | some (.val v t' n') => bif Nat.ble n n' then .ok [(v, t', n')] else .error "names"
  | some (.call g args) => match F g with
    | some row => bif row.ins then ofOne (chk n (evIns F (one ih) g args t n)) else evCallL F M C ih g args t n
    | none => .error "no such function"
  | none => match evNextsO r o t with
    | some (y :: l) => .ok ((y :: l).map fun y => (y.1, y.2, n))
    | _ => bif isRecover o && rnd.isNone then .ok [(.nilIface, t, n)] else evYieldL ih r o t n

def evSeqL (rnd : Option Nat) (ops : List Oper) : List Oper → List Value → List DV → Tr → Nat → Except String (List ((List Value × List DV) × Tr × Nat))
  | [], ts, dfs, t, n => .ok [((ts, dfs), t, n)]
  | o :: rest, ts, dfs, t, n =>
    bif wantedV ops ts o then
      match evOpL P F M C ih rnd (envV ts) o t n with
      | .ok l => bind1 (fun x => match x with | (v, t', n') => putK ts o.dst v (fun ts' => evSeqL rnd ops rest ts' dfs t' n')) l
      | .error e => match evDefer (envV ts) o with
        | some d => bif rnd.isNone then putK ts o.dst undef (fun ts' => evSeqL rnd ops rest ts' (d :: dfs) t n) else .error "defer"
        | none => .error e
    else putK ts o.dst undef (fun ts' => evSeqL rnd ops rest ts' dfs t n)

/-- What is deferred, one behind the other. -/
def evDefs : List DV → Tr → Nat → Except String (List (Unit × Tr × Nat))
  | [], t, n => .ok [((), t, n)]
  | .mark r :: ds, t, n => match t.mem r with
    | some (.defs (some [])) => bif Nat.blt r top then evDefs ds (Tr.set 24 t r (some (.defs none))) n else .error "mark"
    | _ => .error "mark"
  | .call g args :: ds, t, n => match F g with
    | some row => match row.ovl with
      | none => match ih g none (args ++ List.replicate (row.ntmps - args.length) undef) [.code row.body] [] t n with
        | .ok l => bind1 (fun x => match x with | (_, t', n') => evDefs ds t' n') l
        | .error e => .error e
      | some _ => .error "deferred"
    | none => .error "deferred"
/-- The frame is left. -/
def evLeave (fid : FuncId) (rnd : Option Nat) (ts : List Value) (jump : Option Code) (dfs : List DV) (t : Tr) (n : Nat) : OutL :=
  match rnd with
  | some l => match dfs with
    | [] => ofOne (leaveV P F fid (some l) ts jump [] t n)
    | _ => .error "leave"
  | none => match F fid with
    | some row => bif row.ovl.isSome then .error "leave" else match evDefs F ih dfs t n with
      | .ok l => bind1 (fun x => match x with | (_, t', n') => match resV P t' ts row.results with
        | some vs => .ok [(oneV vs, t', n')]
        | none => .error "results") l
      | .error e => .error e
    | none => .error "leave"

def evRangeL (fid : FuncId) (rnd : Option Nat) (ts : List Value) (f : Operand) (params : Array Tmp) (assign body : Code) (k : List Item) (dfs : List DV) (t : Tr) (n : Nat) : OutL :=
  match envV ts f with
  | some (.func (.func g) _ caps) =>
    match rnd with
    | none =>
      bif Nat.blt (n + 1) top then
        match evCallL F M C ih g (.func (.yield (n + 1)) #[] #[] :: caps.toList)
            (Tr.set 24 (Tr.set 24 t n (some (.defs (some [])))) (n + 1) (some (.loop { state := .ready, pending := none, fn := fid, tmps := ts.toArray, params, assign, body, defers := n }))) (n + 2) with
        | .ok l => bind1 (fun x => match x with | (_, t', n') => match t'.mem (n + 1) with
            | some (.loop lp) => bif lp.state == .busy then .error "busy" else
                ih fid rnd ts ((lp.pending.map Item.code).toList ++ k) (.mark n :: dfs) (Tr.set 24 t' (n + 1) (some (.loop { lp with state := .exhausted }))) n'
            | _ => .error "range over a function") l
        | .error e => .error e
      else .error "names"
    | some l => match t.mem l with
      | some (.loop lp0) =>
        bif Nat.blt n top then
          match evCallL F M C ih g (.func (.yield n) #[] #[] :: caps.toList)
              (Tr.set 24 t n (some (.loop { state := .ready, pending := none, fn := fid, tmps := ts.toArray, params, assign, body, defers := lp0.defers }))) (n + 1) with
          | .ok l => bind1 (fun x => match x with | (_, t', n') => match t'.mem n with
              | some (.loop lp) => bif lp.state == .busy then .error "busy" else
                  ih fid rnd ts ((lp.pending.map Item.code).toList ++ k) dfs (Tr.set 24 t' n (some (.loop { lp with state := .exhausted }))) n'
              | _ => .error "range over a function") l
          | .error e => .error e
        else .error "names"
      | _ => .error "range over a function"
  | _ => .error "range over a function"

def stepL (D : Drawn) : RecL := fun fid rnd ts todo dfs t n =>
  match todo with
  | [] => evLeave P F ih fid rnd ts none dfs t n
  | .code c :: k => match c with
    | .skip => ih fid rnd ts k dfs t n
    | .label _ => ih fid rnd ts k dfs t n
    | .ret => evLeave P F ih fid rnd ts (some .ret) dfs t n
    | .seq a b => ih fid rnd ts (.code a :: .code b :: k) dfs t n
    | .cond x a b => match envV ts x with
      | some (.bool true) => ih fid rnd ts (.code a :: k) dfs t n
      | some (.bool false) => ih fid rnd ts (.code b :: k) dfs t n
      | _ => .error "code"
    | .block l a => ih fid rnd ts (.code a :: .inBlock l :: k) dfs t n
    | .loop a => ih fid rnd ts (.code a :: .inLoop a :: k) dfs t n
    | .scope a => ih fid rnd ts (.code a :: .inScope a :: k) dfs t n
    | .exit l => match exitTo l k with
      | some k' => ih fid rnd ts k' dfs t n
      | none => match rnd with
        | some _ => evLeave P F ih fid rnd ts (some (.exit l)) dfs t n
        | none => .error "jump"
    | .goto l => match gotoIn l k with
      | some k' => ih fid rnd ts k' dfs t n
      | none => match rnd with
        | some _ => evLeave P F ih fid rnd ts (some (.goto l)) dfs t n
        | none => .error "jump"
    | .region _ ops false => match evSeqL P F M C ih rnd ops.toList ops.toList ts dfs t n with
      | .ok l => bind1 (fun x => match x with | ((ts', dfs'), t', n') => ih fid rnd ts' k dfs' t' n') l
      | .error e => .error e
    | .region _ ops true => match D (one ih) ops.toList ts t n with
      | .ok (ts', t', n') => bif Nat.ble n n' then ih fid rnd ts' k dfs t' n' else .error "names"
      | .error e => .error e
    | .rangeFunc f params assign body => evRangeL F M C ih fid rnd ts f params assign body k dfs t n
    | .refuse _ => .error "refused"
  | .inBlock _ :: k => ih fid rnd ts k dfs t n
  | .inScope _ :: k => ih fid rnd ts k dfs t n
  | .inLoop a :: k => ih fid rnd ts (.code a :: .inLoop a :: k) dfs t n
  | .beginRound :: k => match rnd with
    | some l => match t.mem l with
      | some (.loop lp) => bif lp.state == .ready && Nat.blt l top then ih fid rnd ts k dfs (Tr.set 24 t l (some (.loop { lp with state := .busy }))) n else .error "round"
      | _ => .error "code"
    | none => .error "jump"
  | _ => .error "code"
end
def runL (P : Program) (F : Book) (M : FuncId → List Memo) (C : FuncId → Bool) (D : Drawn) : Nat → RecL
  | 0 => fun _ _ _ _ _ _ _ => .error "fuel"
  | f + 1 => stepL P F M C (runL P F M C D f) D

section
variable {P : Program} {F : Book} {M : FuncId → List Memo} {C : FuncId → Bool} {σ σ' : Sg} {fr : Frame} {fid : FuncId} {rnd : Option Nat} {ts : List Value} {todo k : List Item} {dfs : List Nat} {w w' : World} {cs : List Frame} {t : Tr} {n : Nat} {outs : List Res} {ih : RecL} {D : Drawn}

/-- What is deferred, and the machine's. -/
inductive DRL (σ : Sg) : List DV → List Deferred → Prop where
  | nil : DRL σ [] []
  | mark (r : Nat) (p : Pl) (rs : List DV) (ds : List Deferred) (h : σ r = some p) (hs : DRL σ rs ds) : DRL σ (.mark r :: rs) ({ target := .collected p.blk, args := #[] } :: ds)
  | call (g : FuncId) (caps args' : Array Value) (args : List Value) (rs : List DV) (ds : List Deferred) (h : LR σ args (args' ++ caps).toList) (hs : DRL σ rs ds) : DRL σ (.call g args :: rs) ({ target := .fn (.func g) caps, args := args' } :: ds)
theorem DRL.mono {σ τ : Sg} (hl : Sg.le σ τ) {rs : List DV} {ds : List Deferred} (h : DRL σ rs ds) : DRL τ rs ds := by
  induction h with
  | nil => exact .nil
  | mark r p rs ds h _ ih => exact .mark r p rs ds (hl _ _ h) ih
  | call g caps args' args rs ds h _ ih => exact .call g caps args' args rs ds (h.mono hl) ih
theorem DR.toL {σ : Sg} {rs : List Nat} {ds : List Deferred} (h : DR σ rs ds) : DRL σ (rs.map .mark) ds := by
  induction h with
  | nil => exact .nil
  | cons r p rs ds h _ ih => exact .mark r p _ _ h ih

/-- A frame of the machine's, and what the reckoner keeps of it. -/
structure FrRL (σ : Sg) (fr : Frame) (cs : List Frame) (fid : FuncId) (rnd : Option Nat) (ts : List Value) (todo : List Item) (dfs : List DV) : Prop where
  mode : fr.mode = .run
  kind : fr.kind = .normal ∨ (fr.kind = .deferred ∧ rnd = none ∧ ∃ c rest, cs = c :: rest ∧ c.mode = .returning)
  fn : fr.fn = fid
  tmps : LR σ ts fr.tmps.toList
  todo : fr.todo = todo
  defs : DRL σ dfs fr.defers
  rnd : RR σ rnd fr.roundOf
theorem FrRL.to {σ : Sg} {fr : Frame} {cs : List Frame} {fid : FuncId} {rnd : Option Nat} {ts : List Value} {todo : List Item} {dfs : List DV} (h : FrRL σ fr cs fid rnd ts todo dfs) (k : List Item) : FrRL σ { fr with todo := k } cs fid rnd ts k dfs :=
  ⟨h.mode, h.kind, h.fn, h.tmps, rfl, h.defs, h.rnd⟩
/-- A frame that is about to return. -/
def Leaves (P : Program) (fr : Frame) (w : World) (v : Value) : Prop := fr.mode = .returning ∧ fr.defers = [] ∧ ∃ fn, P.funcs[fr.fn]? = some fn ∧ (results fn fr.tmps).run P w = .ok v w
def EndsL (P : Program) (w : World) (fr : Frame) (cs : List Frame) (rnd : Option Nat) (v' : Value) (w' : World) : Prop :=
  match rnd with
  | none => ∃ fr', Steps P (lone fr cs w) (lone fr' cs w') ∧ (fr'.fn = fr.fn ∧ fr'.kind = fr.kind) ∧ Leaves P fr' w' v'
  | some _ => ∀ c rest, cs = c :: rest → Steps P (lone fr cs w) (lone (c.finish v') rest w')
theorem EndsL.head {fr2 : Frame} {w2 : World} {v' : Value} (hs : Steps P (lone fr cs w) (lone fr2 cs w2)) (hf : fr2.fn = fr.fn ∧ fr2.kind = fr.kind) (h : EndsL P w2 fr2 cs rnd v' w') : EndsL P w fr cs rnd v' w' := by
  cases rnd with
  | none =>
    obtain ⟨fr', h1, h2, h3⟩ := h
    exact ⟨fr', hs.trans h1, ⟨h2.1.trans hf.1, h2.2.trans hf.2⟩, h3⟩
  | some l => exact fun c rest hc => hs.trans (h c rest hc)

/-- Of what may come of a run one thing comes. -/
def FrL (P : Program) (fid : FuncId) (rnd : Option Nat) (ts : List Value) (todo : List Item) (dfs : List DV) (t : Tr) (n : Nat) (outs : List Res) : Prop :=
  Up n outs ∧ ∀ N, (∀ x ∈ outs, x.2.2 ≤ N) → ∀ σ w fr cs, FrRL σ fr cs fid rnd ts todo dfs → Holds σ t.mem w → Fresh σ n N →
    ∃ x ∈ outs, ∃ σ' w' v', Ext t.mem n x.2.2 σ σ' x.2.1.mem w w' ∧ VR σ' x.1 v' ∧ EndsL P w fr cs rnd v' w'
def RecLOK (P : Program) (ih : RecL) : Prop := ∀ fid rnd ts todo dfs t n outs, ih fid rnd ts todo dfs t n = .ok outs → FrL P fid rnd ts todo dfs t n outs

theorem one_ok (hih : RecLOK P ih) : RecOK P (one ih) := by
  intro fid rnd ts todo dfs t n v t' n' h
  unfold one at h
  split at h
  · rename_i x hx
    cases h
    obtain ⟨h1, h2⟩ := hih _ _ _ _ _ _ _ _ hx
    refine ⟨h1.2 _ (List.mem_singleton.2 rfl), fun σ w fr cs hfr H hf => ?_⟩
    obtain ⟨x, hx, σ', w', v', e1, e2, e3⟩ := h2 n' (fun x hx => by rw [List.mem_singleton.1 hx]; exact Nat.le_refl _) σ w fr cs ⟨hfr.mode, .inl hfr.kind, hfr.fn, hfr.tmps, hfr.todo, hfr.defs.toL, hfr.rnd⟩ H hf
    rw [List.mem_singleton] at hx
    subst hx
    refine ⟨σ', w', v', e1, e2, ?_⟩
    cases rnd with
    | none =>
      obtain ⟨fr', s1, s2, s3⟩ := e3
      exact ⟨fr', s1, s2.1, s3.1, s3.2.1, s2.2.trans hfr.kind, s3.2.2⟩
    | some l => exact e3
  · cases h
  · cases h

theorem ofOne_ok {x : Out} (h : ofOne x = .ok outs) : ∃ y, x = .ok y ∧ outs = [y] := by
  unfold ofOne at h
  split at h
  · cases h; exact ⟨_, rfl, rfl⟩
  · cases h

theorem st_def_call {g : FuncId} {caps args' : Array Value} {ds : List Deferred} {fn : Func} (hm : fr.mode = .returning) (hd : fr.defers = { target := .fn (.func g) caps, args := args' } :: ds) (g1 : P.funcs[g]? = some fn) (g2 : fn.body.isSome = true) (g5 : (fn.name == "runtime.NumGoroutine") = false) :
    step P (lone fr cs w) = .next (lone (Frame.enter P g (args' ++ caps) .deferred) ({ fr with defers := ds } :: cs) w) := by
  have g6 : ¬ fn.name = "runtime.NumGoroutine" := by simpa using g5
  have g3 : ¬ fn.body = none := by intro h; rw [h] at g2; cases g2
  have hrun : (invoke (.fn (.func g) caps) args' : Sem Next).run P w = .ok (.enter g (args' ++ caps)) w := by
    simp [invoke, callFunc, Sem.run_bind, g1, g6, g3]
  refine step_lone_go ?_
  simp [stepG, unwind, hm, hd, callDeferred, Sem.runT_eq, hrun]
theorem st_def_back {c : Frame} {rest : List Frame} {v : Value} (h : Leaves P fr w v) (hk : fr.kind = .deferred) (hc : c.mode = .returning) : step P (lone fr (c :: rest) w) = .next (lone c rest w) := by
  obtain ⟨hm, hd, fn, hf, hr⟩ := h
  exact step_lone_go (by simp [stepG, unwind, doReturn, hm, hd, hk, hf, hr, hc])

theorem evDefs_ok (hF : F.ok P) (hih : RecLOK P ih) : ∀ (dfs : List DV) (t : Tr) (n : Nat) (outs : List (Unit × Tr × Nat)), evDefs F ih dfs t n = .ok outs → Up n outs ∧
    ∀ N, (∀ x ∈ outs, x.2.2 ≤ N) → ∀ σ w fr cs, fr.mode = .returning → DRL σ dfs fr.defers → Holds σ t.mem w → Fresh σ n N →
      ∃ x ∈ outs, ∃ σ' w', Ext t.mem n x.2.2 σ σ' x.2.1.mem w w' ∧ Steps P (lone fr cs w) (lone { fr with defers := [] } cs w')
  | [], t, n, outs, h => by
    simp only [evDefs, Except.ok.injEq] at h
    subst h
    refine ⟨.one (Nat.le_refl _), fun N hN σ w fr cs hm hd H hf => ⟨_, List.mem_singleton.2 rfl, σ, w, Ext.refl H, ?_⟩⟩
    generalize hg : fr.defers = ds at hd
    cases hd
    have : ({ fr with defers := [] } : Frame) = fr := by rw [← hg]
    rw [this]
    exact .refl P _
  | .mark r :: rs, t, n, outs, h => by
    simp only [evDefs, bind1_eq] at h
    split at h
    case h_2 => cases h
    rename_i ht
    cases hb : Nat.blt r top with
    | false => rw [hb] at h; cases h
    | true =>
      rw [hb, cond_true] at h
      have hlt : r < top := Nat.le_of_ble_eq_true hb
      obtain ⟨h1, h2⟩ := evDefs_ok hF hih rs _ _ _ h
      refine ⟨h1, fun N hN σ w fr cs hm hd H hf => ?_⟩
      generalize hg : fr.defers = ds at hd
      cases hd with
      | mark r p rs ds hp hs =>
      obtain ⟨q, x, q1, q2, q3⟩ := H.lies r _ ht
      rw [hp] at q1; cases q1
      cases q3
      have e1 := Ext.setObj (n := n) H ht hp (.gone p)
      have hrun : (Instr.takeDeferred p.blk).run P w = .ok [] { w with heap := w.heap.setIfInBounds p.blk (.deferred none) } := by
        simp only [Instr.takeDeferred, Sem.run_bind, getObj_run (P := P) q2 (by intro c e f h; cases h), Result.andThen_ok, setObj_run (P := P) q2 (by intro c e f h; cases h), Sem.run_pure]
      have hs1 := st_take (P := P) (cs := cs) hm hg hrun
      obtain ⟨x, hx, σ', w', f1, f2⟩ := h2 N hN σ _ { fr with defers := [] ++ ds } cs hm hs (by rw [Tr.mem_set hlt]; exact e1.holds) hf
      rw [Tr.mem_set hlt] at f1
      exact ⟨x, hx, σ', w', e1.trans f1, .head hs1 f2⟩
  | .call g args :: rs, t, n, outs, h => by
    simp only [evDefs, bind1_eq] at h
    split at h
    case h_2 => cases h
    rename_i row hrow
    split at h
    case h_2 => cases h
    rename_i hov
    split at h
    case h_2 => cases h
    rename_i l hl
    obtain ⟨u1, hrun⟩ := hih _ _ _ _ _ _ _ _ hl
    obtain ⟨m1, m2⟩ := bindL_mem h
    obtain ⟨w1, w2⟩ := Up.bind u1 (fun x hx a ha => (evDefs_ok hF hih rs _ _ _ ha).1) h
    refine ⟨w1, fun N hN σ w fr cs hm hd H hf => ?_⟩
    generalize hg : fr.defers = ds at hd
    cases hd with
    | call g caps args' args rs ds hargs hs =>
    obtain ⟨fn, g1, g2, g3, g4, g5⟩ := hF.code g row hrow hov
    have hst := st_def_call (P := P) (cs := cs) (w := w) hm hg g1 (by rw [g2]; rfl) g5
    have hfr : FrRL σ (Frame.enter P g (args' ++ caps) .deferred) ({ fr with defers := ds } :: cs) g none (args ++ List.replicate (row.ntmps - args.length) undef) [.code row.body] [] := by
      refine ⟨rfl, .inr ⟨rfl, rfl, _, _, rfl, hm⟩, rfl, ?_, ?_, .nil, rfl⟩
      · simp only [Frame.enter, g1, Option.map_some, Option.getD_some, g3]
        rw [hargs.1]
        have := hargs.append (LR.rep (σ := σ) (row.ntmps - (args' ++ caps).toList.length))
        simpa using this
      · simp [Frame.enter, g1, g2]
    obtain ⟨x, hx, σ1, w1', v', e1, e2, e3⟩ := hrun N (w2 N hN) σ w _ ({ fr with defers := ds } :: cs) hfr H hf
    obtain ⟨fr', s1, s2, s3⟩ := e3
    have hback := st_def_back (P := P) (c := { fr with defers := ds }) (rest := cs) s3 (s2.2.trans rfl) hm
    obtain ⟨a, ha, hay⟩ := m1 x hx
    obtain ⟨_, hrec⟩ := evDefs_ok hF hih rs _ _ _ ha
    obtain ⟨y, hy, σ', w', f1, f2⟩ := hrec N (fun y hy => hN y (hay y hy)) σ1 w1' { fr with defers := ds } cs hm (hs.mono e1.more) e1.holds (e1.fresh hf)
    exact ⟨y, hay y hy, σ', w', e1.trans f1, .head hst (s1.trans (.head hback f2))⟩

theorem leaveL_ok (hF : F.ok P) (hih : RecLOK P ih) {dfs : List DV} {jump : Option Code} (h : evLeave P F ih fid rnd ts jump dfs t n = .ok outs) (hj : LeaveAt todo jump) (hj2 : rnd = none → todo = [] ∨ ∃ k, todo = .code .ret :: k) : FrL P fid rnd ts todo dfs t n outs := by
  unfold evLeave at h
  simp only [bind1_eq] at h
  split at h
  · rename_i l
    split at h
    case h_2 => cases h
    obtain ⟨⟨v, t', n'⟩, h1, rfl⟩ := ofOne_ok h
    obtain ⟨hle, hrec⟩ := leaveV_ok hF h1 hj hj2
    refine ⟨.one hle, fun N hN σ w fr cs hfr H hf => ?_⟩
    have hk : fr.kind = .normal := by
      rcases hfr.kind with h | ⟨_, h, _⟩
      · exact h
      · cases h
    have hd := hfr.defs
    generalize hg : fr.defers = ds at hd
    cases hd
    obtain ⟨σ', w', v', e1, e2, e3⟩ := hrec σ w fr cs ⟨hfr.mode, hk, hfr.fn, hfr.tmps, hfr.todo, by rw [hg]; exact .nil, hfr.rnd⟩ H (hf.part (Nat.le_refl _) (hN _ (List.mem_singleton.2 rfl)))
    exact ⟨_, List.mem_singleton.2 rfl, σ', w', v', e1, e2, e3⟩
  · split at h
    case h_2 => cases h
    rename_i row hrow
    cases hov : row.ovl with
    | some x => rw [hov] at h; cases h
    | none =>
    rw [hov] at h
    simp only [Option.isSome_none, cond_false] at h
    split at h
    case h_2 => cases h
    rename_i l hl
    obtain ⟨d1, d2⟩ := evDefs_ok hF hih dfs t n l hl
    have hone : ∀ x ∈ l, ∀ a, (match x with | (_, t', n') => match resV P t' ts row.results with
        | some vs => .ok [(oneV vs, t', n')]
        | none => .error "results" : OutL) = .ok a → ∃ vs, resV P x.2.1 ts row.results = some vs ∧ a = [(oneV vs, x.2.1, x.2.2)] := by
      intro x hx a ha
      obtain ⟨_, t1, n1⟩ := x
      dsimp only at ha
      split at ha
      · rename_i vs hvs
        cases ha
        exact ⟨vs, hvs, rfl⟩
      · cases ha
    obtain ⟨m1, m2⟩ := bindL_mem h
    obtain ⟨u1, u2⟩ := Up.bind d1 (fun x hx a ha => by
      obtain ⟨vs, _, rfl⟩ := hone x hx a ha
      exact .one (Nat.le_refl _)) h
    refine ⟨u1, fun N hN σ w fr cs hfr H hf => ?_⟩
    obtain ⟨fn, g1, g2, g3, g4, g5⟩ := hF.code _ _ hrow hov
    have hrnd : fr.roundOf = none := hfr.rnd
    have hs1 : step P (lone fr cs w) = .next (lone { fr with mode := .returning } cs w) := by
      rcases hj2 rfl with h | ⟨k, h⟩
      · exact st_end hfr.mode hrnd (hfr.todo.trans h)
      · exact st_ret hfr.mode hrnd (hfr.todo.trans h)
    obtain ⟨x, hx, σ1, w', e1, e2⟩ := d2 N (u2 N hN) σ w { fr with mode := .returning } cs rfl hfr.defs H hf
    obtain ⟨a, ha, hay⟩ := m1 x hx
    obtain ⟨vs, hvs, rfl⟩ := hone x hx a ha
    obtain ⟨vs', r1, r2⟩ := resV_ok (P := P) (fr := fr) e1.holds (hfr.tmps.mono e1.more) _ _ hvs
    refine ⟨_, hay _ (List.mem_singleton.2 rfl), σ1, w', _, e1, oneV_rel r1, ⟨_, .head hs1 e2, ⟨rfl, rfl⟩, rfl, rfl, fn, by rw [← hfr.fn] at g1; exact g1, ?_⟩⟩
    simp only [results_eq, Sem.run_bind, Array.mapM_eq_mapM_toList, Sem.run_map, g4, r2, Result.andThen_ok, Sem.run_pure]

theorem recL_to (hih : RecLOK P ih) {dfs : List DV} {t1 : Tr} (hst : ∀ (fr : Frame) (cs : List Frame) (w : World) (σ : Sg), FrRL σ fr cs fid rnd ts todo dfs → step P (lone fr cs w) = .next (lone { fr with todo := k } cs w)) (h : ih fid rnd ts k dfs t n = .ok outs) :
    FrL P fid rnd ts todo dfs t n outs := by
  obtain ⟨hle, hrec⟩ := hih _ _ _ _ _ _ _ _ h
  refine ⟨hle, fun N hN σ w fr cs hfr H hf => ?_⟩
  obtain ⟨x, hx, σ', w', v', e1, e2, e3⟩ := hrec N hN σ w _ cs (hfr.to k) H hf
  exact ⟨x, hx, σ', w', v', e1, e2, EndsL.head (.one (hst fr cs w σ hfr)) ⟨rfl, rfl⟩ e3⟩

def CallL (P : Program) (g : FuncId) (args : List Value) (t : Tr) (n : Nat) (outs : List Res) : Prop :=
  Up n outs ∧ ∀ N, (∀ x ∈ outs, x.2.2 ≤ N) → ∀ σ w args' c rest, LR σ args args' → Holds σ t.mem w → Fresh σ n N →
    ∃ x ∈ outs, ∃ σ' w' v', Ext t.mem n x.2.2 σ σ' x.2.1.mem w w' ∧ VR σ' x.1 v' ∧ Steps P (lone (Frame.enter P g args'.toArray .normal) (c :: rest) w) (lone (c.finish v') rest w')

/-- A block that is new gets a name. -/
theorem Ext.name {σ : Sg} {h : Mem} {n : Nat} {w w' : World} {o : VO} {x : Obj} {p : Pl} (H : Holds σ h w) (hB : Below w.heap.size w w') (hf : σ n = none) (hp : w.heap.size ≤ p.blk) (hat : w'.heap[p.blk]? = some x) (hx : OR (σ.put n p) o p x) :
    Ext h n (n + 1) σ (σ.put n p) (fun j => if j = n then some o else h j) w w' where
  le := Nat.le_succ n
  more := Sg.put_le hf
  off := fun i q hi => by
    unfold Sg.put at hi
    by_cases he : i = n
    · exact .inr ⟨by omega, by omega⟩
    · rw [if_neg he] at hi; exact .inl hi
  holds := by
    refine ⟨fun i o' hi => ?_, fun i j o1 o2 p1 p2 h1 h2 h3 h4 h5 => ?_, fun b y hb => ?_, fun i o' q hi hq => ?_⟩
    rotate_left 2
    · rw [hB.block b (H.roLt hb)]; exact H.ro b y hb
    · unfold Sg.put at hq
      by_cases he : i = n
      · rw [if_pos he] at hq; cases hq
        exact H.roNew hp
      · rw [if_neg he] at hi hq; exact H.apart i o' q hi hq
    · by_cases he : i = n
      · subst he
        rw [if_pos rfl] at hi
        cases hi
        exact ⟨p, x, Sg.put_same, hat, hx⟩
      · rw [if_neg he] at hi
        obtain ⟨q, y, h1, h2, h3⟩ := H.lies i o' hi
        have hlt := H.lt hi h1
        exact ⟨q, y, Sg.put_le hf _ _ h1, by rw [hB.block q.blk hlt, h2], h3.mono (Sg.put_le hf)⟩
    · unfold Sg.put at h3 h4
      by_cases hi : i = n <;> by_cases hj : j = n
      · omega
      · rw [if_pos hi] at h3; rw [if_neg hj] at h2 h4; cases h3
        have := H.lt h2 h4; omega
      · rw [if_pos hj] at h4; rw [if_neg hi] at h1 h3; cases h4
        have := H.lt h1 h3; omega
      · rw [if_neg hi] at h1 h3; rw [if_neg hj] at h2 h4
        exact H.inj i j _ _ _ _ h1 h2 h3 h4 h5
  os := hB.os
  tape := hB.tape
  output := hB.output
  size := hB.size
  frame := fun b hb _ => hB.block b hb
  live := fun i o' hi => by
    by_cases he : i = n
    · exact .inr ⟨by omega, by omega⟩
    · rw [if_neg he] at hi; exact .inl ⟨o', hi⟩
  place := fun i o' q hi hq => by
    unfold Sg.put at hq
    by_cases he : i = n
    · rw [if_pos he] at hq; cases hq; exact .inl hp
    · rw [if_neg he] at hi hq; exact .inr ⟨i, o', q, hi, hq, rfl⟩
/-- What was reckoned of a call is what comes of it. -/
def MemoOK (P : Program) (g : FuncId) (m : Memo) : Prop :=
  (m.outs ≠ [] ∧ ∀ y ∈ m.outs, m.n ≤ y.2.2) ∧ ∀ N, (∀ y ∈ m.outs, y.2.2 ≤ N) → ∀ σ w args' c rest, LR σ m.args args' → Holds σ (memOf m.dom) w → Fresh σ m.n N →
    ∃ y ∈ m.outs, ∃ σ' w' v', Ext (memOf m.dom) m.n y.2.2 σ σ' (memOf y.2.1) w w' ∧ VR σ' y.1 v' ∧ Steps P (lone (Frame.enter P g args'.toArray .normal) (c :: rest) w) (lone (c.finish v') rest w')
theorem memo_apply {g : FuncId} {m : Memo} (hm : MemoOK P g m) (c3 : holdsT t m.dom = true) (c4 : idsIn m.dom = true) (c5 : m.outs.all (fun y => idsIn y.2.1) = true) :
    CallL P g m.args t m.n (m.outs.map fun y => (y.1, setsT y.2.1 (dropT m.dom t), y.2.2)) := by
  obtain ⟨⟨u1, u2⟩, hrun⟩ := hm
  refine ⟨⟨by simpa using u1, fun x hx => ?_⟩, fun N hN σ w args' c rest hargs H hf => ?_⟩
  · obtain ⟨y, hy, rfl⟩ := List.mem_map.1 hx
    exact u2 y hy
  · have hs : ∀ i o, memOf m.dom i = some o → t.mem i = some o := fun i o hi => holdsT_ok c3 hi
    obtain ⟨y, hy, σ', w', v', e1, e2, e3⟩ := hrun N (fun y hy => hN _ (List.mem_map.2 ⟨y, hy, rfl⟩)) σ w args' c rest hargs (H.part hs) hf
    refine ⟨_, List.mem_map.2 ⟨y, hy, rfl⟩, σ', w', v', ?_, e2, e3⟩
    refine Ext.around H hs e1 fun i o hi => ?_
    rw [setsT_mem (List.all_eq_true.1 c5 y hy)] at hi
    cases hm1 : memOf y.2.1 i with
    | some o1 => rw [hm1] at hi; exact .inl hi
    | none =>
      rw [hm1] at hi
      simp only at hi
      rw [dropT_mem c4] at hi
      cases hm2 : memOf m.dom i with
      | some o2 => rw [hm2] at hi; cases hi
      | none => rw [hm2] at hi; exact .inr ⟨rfl, rfl, hi⟩
theorem Ext.drop {σ σ' : Sg} {h h' h'' : Mem} {n n' : Nat} {w w' : World} (e : Ext h n n' σ σ' h' w w') (hs : ∀ i o, h'' i = some o → h' i = some o) : Ext h n n' σ σ' h'' w w' :=
  ⟨e.le, e.more, e.off, e.holds.part hs, e.os, e.tape, e.output, e.size, e.frame, fun i o hi => e.live i o (hs i o hi), fun i o p hi hp => e.place i o p (hs i o hi) hp⟩
theorem setsT_nil {l : List (Nat × VO)} (h : idsIn l = true) : (setsT l .nil).mem = memOf l := by
  funext i
  rw [setsT_mem h]
  cases memOf l i with
  | some o => rfl
  | none => simp [Tr.mem, Tr.get]
theorem evCut_ok {g : FuncId} {args : List Value} {run : List Value → Tr → Nat → OutL} (hrun0 : ∀ t n outs, run args t n = .ok outs → CallL P g args t n outs) (h : evCut run args t n = .ok outs) : CallL P g args t n outs := by
  unfold evCut at h
  split at h
  · cases h
  rename_i dom hdom
  cases hc : (holdsT t dom && idsIn dom) with
  | false => rw [hc] at h; cases h
  | true =>
  rw [hc, cond_true] at h
  simp only [Bool.and_eq_true] at hc
  split at h
  case h_2 => cases h
  case h_3 => cases h
  rename_i v t1 n1 l hl
  split at h
  case h_2 => cases h
  rename_i lst hlst
  cases hc2 : (idsIn lst && ((v, t1, n1) :: l).all (fun x => valEq 60 x.1 v && Nat.beq x.2.2 n1 && holdsT x.2.1 lst)) with
  | false => rw [hc2] at h; cases h
  | true =>
  rw [hc2, cond_true] at h
  cases h
  simp only [Bool.and_eq_true] at hc2
  obtain ⟨d1, d2⟩ := hc2
  obtain ⟨⟨u1, u2⟩, hrun⟩ := hrun0 _ _ _ hl
  rw [setsT_nil hc.2] at hrun
  have hall : ∀ x ∈ (v, t1, n1) :: l, x.1 = v ∧ x.2.2 = n1 ∧ holdsT x.2.1 lst = true := by
    intro x hx
    have := List.all_eq_true.1 d2 x hx
    simp only [Bool.and_eq_true] at this
    exact ⟨valEq_ok 60 _ _ this.1.1, Nat.eq_of_beq_eq_true this.1.2, this.2⟩
  have hmemo : MemoOK P g ⟨args, n, dom, [(v, lst, n1)]⟩ := by
    refine ⟨⟨by simp, fun y hy => ?_⟩, fun N hN σ w args' c rest hargs H hf => ?_⟩
    · rw [List.mem_singleton.1 hy]
      exact u2 _ List.mem_cons_self
    · have hN1 : n1 ≤ N := hN (v, lst, n1) (List.mem_singleton.2 rfl)
      obtain ⟨x, hx, σ', w', v', e1, e2, e3⟩ := hrun N (fun x hx => by rw [(hall x hx).2.1]; exact hN1) σ w args' c rest hargs H hf
      obtain ⟨h1, h2, h3⟩ := hall x hx
      refine ⟨_, List.mem_singleton.2 rfl, σ', w', v', ?_, by simpa only [h1] using e2, e3⟩
      simp only
      rw [← h2]
      exact e1.drop fun i o hi => holdsT_ok h3 hi
  have := memo_apply (t := t) hmemo hc.1 hc.2 (by simpa using d1)
  simpa using this
theorem memoFind_ok {g : FuncId} : ∀ {ms : List Memo} {args : List Value}, (∀ m ∈ ms, MemoOK P g m) → memoFind ms args t n = some outs → CallL P g args t n outs
  | [], args, _, h => by cases h
  | m :: ms, args, hM, h => by
    simp only [memoFind] at h
    cases hc : (Nat.beq m.n n && listEq (valEq 60) m.args args && holdsT t m.dom && idsIn m.dom && m.outs.all (fun y => idsIn y.2.1)) with
    | false =>
      rw [hc, cond_false] at h
      exact memoFind_ok (fun m' hm' => hM m' (List.mem_cons_of_mem _ hm')) h
    | true =>
      rw [hc, cond_true, Option.some.injEq] at h
      subst h
      simp only [Bool.and_eq_true] at hc
      obtain ⟨⟨⟨⟨c1, c2⟩, c3⟩, c4⟩, c5⟩ := hc
      have c1 := Nat.eq_of_beq_eq_true c1
      have c2 := listEq_ok (valEq_ok 60) _ _ c2
      subst c1; subst c2
      obtain ⟨⟨u1, u2⟩, hrun⟩ := hM m List.mem_cons_self
      refine ⟨⟨by simpa using u1, fun x hx => ?_⟩, fun N hN σ w args' c rest hargs H hf => ?_⟩
      · obtain ⟨y, hy, rfl⟩ := List.mem_map.1 hx
        exact u2 y hy
      · have hs : ∀ i o, memOf m.dom i = some o → t.mem i = some o := fun i o hi => holdsT_ok c3 hi
        obtain ⟨y, hy, σ', w', v', e1, e2, e3⟩ := hrun N (fun y hy => hN _ (List.mem_map.2 ⟨y, hy, rfl⟩)) σ w args' c rest hargs (H.part hs) hf
        refine ⟨_, List.mem_map.2 ⟨y, hy, rfl⟩, σ', w', v', ?_, e2, e3⟩
        refine Ext.around H hs e1 fun i o hi => ?_
        rw [setsT_mem (List.all_eq_true.1 c5 y hy)] at hi
        cases hm1 : memOf y.2.1 i with
        | some o1 => rw [hm1] at hi; exact .inl hi
        | none =>
          rw [hm1] at hi
          simp only at hi
          rw [dropT_mem c4] at hi
          cases hm2 : memOf m.dom i with
          | some o2 => rw [hm2] at hi; cases hi
          | none => rw [hm2] at hi; exact .inr ⟨rfl, rfl, hi⟩
theorem evCallL_ok (hF : F.ok P) (hM : ∀ g, ∀ m ∈ M g, MemoOK P g m) (hih : RecLOK P ih) {g : FuncId} {args : List Value} (h : evCallL F M C ih g args t n = .ok outs) : CallL P g args t n outs := by
  unfold evCallL at h
  split at h
  case h_2 => cases h
  rename_i row hrow
  split at h
  case h_2 => cases h
  rename_i hov
  cases hsure : (row.sure && args.isEmpty) with
  | true =>
    rw [hsure, cond_true] at h
    cases h
    simp only [Bool.and_eq_true, List.isEmpty_iff] at hsure
    obtain ⟨hs1, hs2⟩ := hsure
    subst hs2
    refine ⟨.one (Nat.le_refl _), fun N hN σ w args' c rest hargs H hf => ?_⟩
    have ha : args' = [] := by
      have := hargs.1
      cases args' with
      | nil => rfl
      | cons a l => simp at this
    subst ha
    obtain ⟨e, w', fr, ⟨he, hB⟩, hs, hfn, hlv⟩ := hF.sure g row hrow hs1 w (c :: rest)
    subst he
    exact ⟨_, List.mem_singleton.2 rfl, σ, w', .bool true, Ext.below H hB, .bool true, hs.trans (.one (step_leave_returned hlv))⟩
  | false =>
  rw [hsure, cond_false] at h
  split at h
  · rename_i l hmade
    cases hc : (args.isEmpty && Nat.blt n top) with
    | false => rw [hc] at h; cases h
    | true =>
    rw [hc, cond_true] at h
    cases h
    simp only [Bool.and_eq_true, List.isEmpty_iff] at hc
    obtain ⟨hc1, hc2⟩ := hc
    subst hc1
    have hlt : n < top := Nat.le_of_ble_eq_true hc2
    refine ⟨.one (Nat.le_succ n), fun N hN σ w args' c rest hargs H hf => ?_⟩
    have ha : args' = [] := by
      have := hargs.1
      cases args' with
      | nil => rfl
      | cons a l => simp at this
    subst ha
    obtain ⟨e, w', fr, ⟨b, l', k, he, hb, hat, hpm, hB⟩, hs, hfn, hlv⟩ := hF.made g row l hrow hmade w (c :: rest)
    subst he
    have hn : σ n = none := hf n (Nat.le_refl _) (by have := hN _ (List.mem_singleton.2 rfl); simp only at this; omega)
    refine ⟨_, List.mem_singleton.2 rfl, σ.put n ⟨b, 0, 0, 0⟩, w', .map (some b), ?_, .map n ⟨b, 0, 0, 0⟩ Sg.put_same, hs.trans (.one (step_leave_returned hlv))⟩
    rw [Tr.mem_set hlt]
    exact Ext.name H hB hn hb hat (.pmap l l' k _ hpm)
  split at h
  · rename_i v0 hans
    cases h
    have hans := lookA_mem hans
    obtain ⟨s1, s2, s3⟩ := hF.ans g row args v0 hrow hans
    refine ⟨.one (Nat.le_refl n), fun N hN σ w args' c rest hargs H hf => ?_⟩
    have ha : args' = args.map concV := by
      refine List.ext_getElem (by simp [hargs.1]) fun i h1 h2 => ?_
      have h3 : i < args.length := by simpa using h2
      have := hargs.2 i h3 h1
      rw [List.getElem_map]
      exact scal_eq (List.all_eq_true.1 s1 _ (List.getElem_mem h3)) this
    subst ha
    obtain ⟨e, w', fr, ⟨he, hB⟩, hs, hfn, hlv⟩ := s3 w H.ro (c :: rest)
    subst he
    exact ⟨_, List.mem_singleton.2 rfl, σ, w', concV v0, Ext.below H hB, scal_rel s2, hs.trans (.one (step_leave_returned hlv))⟩
  split at h
  · rename_i l hl
    cases h
    exact memoFind_ok (hM g) hl
  have hplain : ∀ t n outs, ih g none (args ++ List.replicate (row.ntmps - args.length) undef) [.code row.body] [] t n = .ok outs → CallL P g args t n outs := by
    intro t n outs h
    obtain ⟨hle, hrun⟩ := hih _ _ _ _ _ _ _ _ h
    refine ⟨hle, fun N hN σ w args' c rest hargs H hf => ?_⟩
    obtain ⟨fn, g1, g2, g3, g4, g5⟩ := hF.code g row hrow hov
    have hfr : FrRL σ (Frame.enter P g args'.toArray .normal) (c :: rest) g none (args ++ List.replicate (row.ntmps - args.length) undef) [.code row.body] [] := by
      refine ⟨rfl, .inl rfl, rfl, ?_, ?_, .nil, rfl⟩
      · simp only [Frame.enter, g1, Option.map_some, Option.getD_some, g3]
        rw [hargs.1]
        have := hargs.append (LR.rep (σ := σ) (row.ntmps - args'.length))
        simpa using this
      · simp [Frame.enter, g1, g2]
    obtain ⟨x, hx, σ', w', v', e1, e2, e3⟩ := hrun N hN σ w _ (c :: rest) hfr H hf
    obtain ⟨fr', s1, s2, s3⟩ := e3
    exact ⟨x, hx, σ', w', v', e1, e2, s1.trans (.one (step_leave_returned ⟨s3.1, s3.2.1, s2.2.trans rfl, s3.2.2⟩))⟩
  cases hcut : C g with
  | true =>
    rw [hcut, cond_true] at h
    exact evCut_ok hplain h
  | false =>
    rw [hcut, cond_false] at h
    exact hplain _ _ _ h

/-- Nothing panics that the frame could recover. -/
def Calm (fr : Frame) (cs : List Frame) : Prop := fr.kind = .normal ∨ (fr.kind = .deferred ∧ ∃ c rest, cs = c :: rest ∧ c.mode = .returning)
theorem Calm.none {fr : Frame} {cs : List Frame} (h : Calm fr cs) : tryRecover fr cs = none := by
  unfold tryRecover
  rcases h with h | ⟨h, c, rest, rfl, hc⟩
  · rw [h]
  · rw [h]; simp [hc]
theorem st_recover {o : Oper} {ops : Array Oper} {i : Nat} {rest : List Nat} (hm : fr.mode = .run) (hro : fr.roundOf = none) (hc : Calm fr cs) (ht : fr.todo = .inRegion ops (i :: rest) :: k) (ho : ops[i]? = some o) (hw : Region.wanted o (yielded ops fr.tmps) = true) (hr : isRecover o = true) :
    step P (lone fr cs w) = .next (lone (fr.finish .nilIface) cs w) := by
  unfold isRecover at hr
  split at hr
  case h_2 => cases hr
  rename_i c hop
  split at hr
  case h_2 => cases hr
  rename_i hcal
  have hrun : (execOp fr.eval o).run P w = .ok .recover w := by
    simp [execOp, hop, resolve, hcal, invoke, builtin, Sem.run_bind]
  refine step_lone_go ?_
  rw [stepG_oper hm ht ho hw (fun c' hc' => by rw [hop] at hc'; cases hc')]
  simp [stepG.apply, hrun, hro, hc.none]
theorem stepG_oper0 {ops : Array Oper} {i : Nat} {rest : List Nat} {o : Oper} (hm : fr.mode = .run) (hro : fr.roundOf = none) (ht : fr.todo = .inRegion ops (i :: rest) :: k) (ho : ops[i]? = some o) (hw : Region.wanted o (yielded ops fr.tmps) = true) :
    stepG P true { frame := fr, callers := cs, status := .running, dying := none } w = stepG.apply P true fr cs none (execOp fr.eval o) w := by
  have : stepG.oper P true fr cs none w = stepG.apply P true fr cs none (execOp fr.eval o) w := by
    unfold stepG.oper
    rw [show fr.oper? = some o by simp [Frame.oper?, ht, ho]]
    dsimp only
    rw [hro]
  rw [← this]
  simp [stepG, stepG.exec, hm, ht, ho, hw]
theorem st_defer {o : Oper} {ops : Array Oper} {i : Nat} {rest : List Nat} {d : Deferred} (hm : fr.mode = .run) (hro : fr.roundOf = none) (ht : fr.todo = .inRegion ops (i :: rest) :: k) (ho : ops[i]? = some o) (hw : Region.wanted o (yielded ops fr.tmps) = true)
    (hr : (execOp fr.eval o).run P w = .ok (.defer d) w) : step P (lone fr cs w) = .next (lone ({ fr with defers := d :: fr.defers }.finish undef) cs w) := by
  refine step_lone_go ?_
  rw [stepG_oper0 hm hro ht ho hw]
  simp [stepG.apply, hr]
theorem evDefer_ok {o : Oper} {r : Env} {d : DV} (hr : r.ok σ fr.eval) (h : evDefer r o = some d) (w : World) : ∃ D, (execOp fr.eval o).run P w = .ok (.defer D) w ∧ ∀ rs ds, DRL σ rs ds → DRL σ (d :: rs) (D :: ds) := by
  unfold evDefer at h
  split at h
  case h_2 => cases h
  rename_i c hop
  split at h
  case h_2 => cases h
  rename_i f hcal
  split at h
  case h_2 => cases h
  rename_i g first caps args hf hargs
  cases h
  have hfv := hr _ _ hf
  generalize hgf : fr.eval f = fv at hfv
  cases hfv with
  | func g cs cs' hs hv =>
  have hal : LR σ args (c.args.map fr.eval).toList := by simpa using envAll_ok hr _ _ hargs
  refine ⟨{ target := .fn (.func g) cs', args := c.args.map fr.eval }, by simp [execOp, hop, resolve, hcal, hgf, Deferred.ofValue, Sem.run_bind], fun rs ds hd => .call g cs' _ _ rs ds ?_ hd⟩
  have := hal.append (LR.ofAgg hs hv)
  simpa using this

theorem evOpL_ok (hF : F.ok P) (hM : ∀ g, ∀ m ∈ M g, MemoOK P g m) (hih : RecLOK P ih) {o : Oper} {r : Env} (h : evOpL P F M C ih rnd r o t n = .ok outs) (hnd : ∀ c, o.op ≠ .defer c) : Up n outs ∧
    ∀ N, (∀ x ∈ outs, x.2.2 ≤ N) → ∀ {σ : Sg} {w : World} {fr : Frame} {cs : List Frame} {k : List Item} {ops : Array Oper} {i : Nat} {rest : List Nat}, fr.mode = .run → RR σ rnd fr.roundOf → Calm fr cs → r.ok σ fr.eval → fr.todo = .inRegion ops (i :: rest) :: k → ops[i]? = some o → Region.wanted o (yielded ops fr.tmps) = true →
      Holds σ t.mem w → Fresh σ n N → ∃ x ∈ outs, ∃ σ' w' v', Ext t.mem n x.2.2 σ σ' x.2.1.mem w w' ∧ VR σ' x.1 v' ∧ Steps P (lone fr cs w) (lone (fr.finish v') cs w') := by
  unfold evOpL at h
  split at h
  · rename_i v1 t1 n1 h1
    cases hb : Nat.ble n n1 with
    | false => rw [hb] at h; cases h
    | true =>
    rw [hb, cond_true] at h
    cases h
    refine ⟨.one (Nat.le_of_ble_eq_true hb), fun N hN σ w fr cs k ops i rest hm hro hcalm hr ht ho hw H hf => ?_⟩
    obtain ⟨σ', w', v', e1, e2, e3⟩ := ev1_ok hF H hr h1 (hf.part (Nat.le_refl _) (hN _ (List.mem_singleton.2 rfl)))
    exact ⟨_, List.mem_singleton.2 rfl, σ', w', v', e1, e2, .one (st_op_value hm ht ho hw hnd e3)⟩
  · rename_i g args h1
    split at h
    case h_2 => cases h
    rename_i row hrow
    cases hins : row.ins with
    | true =>
      rw [hins, cond_true] at h
      obtain ⟨⟨v, t', n'⟩, hc, rfl⟩ := ofOne_ok h
      obtain ⟨hc, hle⟩ := chk_ok hc
      refine ⟨.one hle, fun N hN σ w fr cs k ops i rest hm hro hcalm hr ht ho hw H hf => ?_⟩
      obtain ⟨args', e1, e2⟩ := ev1_ok hF H hr h1
      obtain ⟨_, hc⟩ := evIns_ok hF (one_ok hih) hc
      obtain ⟨σ', w', v', f1, f2, f3⟩ := hc σ w args' fr cs e1 H (hf.part (Nat.le_refl _) (hN _ (List.mem_singleton.2 rfl)))
      exact ⟨_, List.mem_singleton.2 rfl, σ', w', v', f1, f2, .head (st_op_enter hm ht ho hw hnd e2) f3⟩
    | false =>
      rw [hins, cond_false] at h
      obtain ⟨hle, hc⟩ := evCallL_ok hF hM hih h
      refine ⟨hle, fun N hN σ w fr cs k ops i rest hm hro hcalm hr ht ho hw H hf => ?_⟩
      obtain ⟨args', e1, e2⟩ := ev1_ok hF H hr h1
      obtain ⟨x, hx, σ', w', v', f1, f2, f3⟩ := hc N hN σ w args' fr cs e1 H hf
      exact ⟨x, hx, σ', w', v', f1, f2, .head (st_op_enter hm ht ho hw hnd e2) f3⟩
  · split at h
    · rename_i y0 l hl
      cases h
      refine ⟨⟨by simp, fun x hx => ?_⟩, fun N hN σ w fr cs k ops i rest hm hro hcalm hr ht ho hw H hf => ?_⟩
      · obtain ⟨y, _, rfl⟩ := List.mem_map.1 hx
        exact Nat.le_refl _
      · unfold evNextsO at hl
        split at hl
        case h_2 => cases hl
        rename_i x str hop
        split at hl
        case h_2 => cases hl
        rename_i xv hx
        obtain ⟨y, hy, w', v', e1, e2, e3⟩ := evNexts_ok (P := P) (n := n) (ty := o.type) H (hr _ _ hx) hl
        exact ⟨_, List.mem_map.2 ⟨y, hy, rfl⟩, σ, w', v', e1, e2, .one (st_op_value hm ht ho hw hnd (.inl (by simp [execOp, hop, Sem.run_bind, e3])))⟩
    · cases hre : (isRecover o && rnd.isNone) with
      | true =>
        rw [hre, cond_true] at h
        cases h
        simp only [Bool.and_eq_true, Option.isNone_iff_eq_none] at hre
        obtain ⟨hre1, hre2⟩ := hre
        subst hre2
        refine ⟨.one (Nat.le_refl _), fun N hN σ w fr cs k ops i rest hm hro hcalm hr ht ho hw H hf => ?_⟩
        exact ⟨_, List.mem_singleton.2 rfl, σ, w, .nilIface, Ext.refl H, .nilIface, .one (st_recover hm hro hcalm ht ho hw hre1)⟩
      | false =>
      rw [hre, cond_false] at h
      unfold evYieldL at h
      split at h
      case h_2 => cases h
      rename_i c hop
      split at h
      case h_2 => cases h
      rename_i f hcal
      split at h
      case h_2 => cases h
      rename_i l first caps args hfv hargs
      split at h
      case h_2 => cases h
      rename_i lp hlp
      cases hb : Nat.beq args.length lp.params.toList.length with
      | false => rw [hb] at h; cases h
      | true =>
        rw [hb, cond_true] at h
        have hb := Nat.eq_of_beq_eq_true hb
        obtain ⟨hle, hrec⟩ := hih _ _ _ _ _ _ _ _ h
        refine ⟨hle, fun N hN σ w fr cs k ops i rest hm hro hcalm hr ht ho hw H hf => ?_⟩
        obtain ⟨p, d, lp', a0, a0', a1, a2, a3, a4, a5, a6, a7, a8, a9⟩ := H.loop hlp
        have hfr := hr _ _ hfv
        generalize hgf : fr.eval f = fv at hfr
        cases hfr with
        | yield l q hq =>
        rw [a0] at hq; cases hq
        have hal : LR σ args (c.args.map fr.eval).toList := by simpa using envAll_ok hr _ _ hargs
        have hsz : (c.args.map fr.eval).size = lp'.params.size := by
          have := hal.1
          rw [a5]
          simp only [Array.length_toList] at this hb
          omega
        have hrun : (execOp fr.eval o).run P w = .ok (.round p.blk lp'.fn ((lp'.params.zip (c.args.map fr.eval)).foldl (fun tmps (x : Tmp × Value) => tmps.setIfInBounds x.1 x.2) lp'.tmps) lp'.assign lp'.body) w := by
          have hgo : (Instr.getLoop p.blk).run P w = .ok lp' w := by
            simp only [Instr.getLoop, Sem.run_bind, getObj_run (P := P) a0' (by intro c e f h; cases h), Result.andThen_ok, Sem.run_pure]
          simp only [execOp, hop, resolve, hcal, hgf, Deferred.ofValue, Sem.run_bind, Sem.run_pure, Result.andThen_ok, invoke, Instr.yield, hgo, Array.empty_append, Sem.run_ite]
          rw [if_neg (by simpa using hsz)]
        have hfr2 : FrRL σ (Frame.round p.blk lp'.fn ((lp'.params.zip (c.args.map fr.eval)).foldl (fun tmps (x : Tmp × Value) => tmps.setIfInBounds x.1 x.2) lp'.tmps) lp'.assign lp'.body .normal) (fr :: cs) lp.fn (some l)
            (setAll lp.params.toList args lp.tmps.toList) [.code lp.assign, .beginRound, .code lp.body] [] := by
          refine ⟨rfl, .inl rfl, a3, ?_, by simp [Frame.round, a6, a7], .nil, ⟨p, a0, rfl⟩⟩
          have := setAll_rel lp.params.toList args (c.args.map fr.eval).toList lp.tmps.toList lp'.tmps hal a4 hb.symm
          simp only [Frame.round]
          rw [← Array.foldl_toList, Array.toList_zip, a5]
          exact this
        obtain ⟨x, hx, σ', w', v', e1, e2, e3⟩ := hrec N hN σ w _ (fr :: cs) hfr2 H hf
        exact ⟨x, hx, σ', w', v', e1, e2, .head (st_op_round hm ht ho hw hnd hrun) (e3 fr cs rfl)⟩

/-- A region in the order of the text. -/
theorem evSeqL_ok (hF : F.ok P) (hM : ∀ g, ∀ m ∈ M g, MemoOK P g m) (hih : RecLOK P ih) (ops : Array Oper) : ∀ (rest : List Oper) (i : Nat) (ts : List Value) (dfs : List DV) (t : Tr) (n : Nat) (outs : List ((List Value × List DV) × Tr × Nat)), ops.toList.drop i = rest → evSeqL P F M C ih rnd ops.toList rest ts dfs t n = .ok outs →
    Up n outs ∧ ∀ N, (∀ x ∈ outs, x.2.2 ≤ N) → ∀ σ w fr (cs : List Frame) (k : List Item), fr.mode = .run → RR σ rnd fr.roundOf → Calm fr cs → DRL σ dfs fr.defers → LR σ ts fr.tmps.toList → fr.todo = .inRegion ops ((List.range ops.size).drop i) :: k → Holds σ t.mem w → Fresh σ n N →
      ∃ x ∈ outs, ∃ σ' w' tmps' ds', Ext t.mem n x.2.2 σ σ' x.2.1.mem w w' ∧ LR σ' x.1.1 tmps'.toList ∧ DRL σ' x.1.2 ds' ∧ Steps P (lone fr cs w) (lone { fr with tmps := tmps', defers := ds', todo := k } cs w')
  | [], i, ts, dfs, t, n, outs, hd, h => by
    simp only [evSeqL, Except.ok.injEq] at h
    subst h
    refine ⟨.one (Nat.le_refl _), fun N hN σ w fr cs k hm hro hcalm hdf hts ht H hf => ⟨_, List.mem_singleton.2 rfl, σ, w, fr.tmps, fr.defers, Ext.refl H, hts, hdf, ?_⟩⟩
    have hi : ops.size ≤ i := by simpa using List.drop_eq_nil_iff.1 hd
    have : (List.range ops.size).drop i = [] := List.drop_eq_nil_iff.2 (by simpa using hi)
    rw [this] at ht
    exact .one (st_region_end hm ht)
  | o :: rest, i, ts, dfs, t, n, outs, hd, h => by
    have hi : i < ops.size := by
      rcases Nat.lt_or_ge i ops.size with h | h
      · exact h
      · have := List.drop_eq_nil_iff.2 (show ops.toList.length ≤ i by simpa using h)
        rw [this] at hd; cases hd
    have hcons := List.drop_eq_getElem_cons (l := ops.toList) (i := i) (by simpa using hi)
    rw [hd] at hcons
    injection hcons with ho hrest
    have hoi : ops[i]? = some o := by simp [hi, ho]
    simp only [evSeqL, putK_eq, bind1_eq] at h
    cases hwv : wantedV ops.toList ts o with
    | true =>
      rw [hwv, cond_true] at h
      split at h
      case h_2 =>
        split at h
        case h_2 => cases h
        rename_i d hdv
        cases hrn : rnd.isNone with
        | false => rw [hrn] at h; cases h
        | true =>
        rw [hrn, cond_true] at h
        rw [Option.isNone_iff_eq_none] at hrn
        obtain ⟨g1, g2⟩ := evSeqL_ok hF hM hih ops rest (i + 1) _ _ _ _ _ hrest.symm h
        refine ⟨g1, fun N hN σ w fr cs k hm hro hcalm hdf hts ht H hf => ?_⟩
        have hro0 : fr.roundOf = none := by rw [hrn] at hro; exact hro
        rw [range_drop _ _ hi] at ht
        obtain ⟨D, hD1, hD2⟩ := evDefer_ok (P := P) (env_ok (fr := fr) hts) hdv w
        have hst := st_defer (P := P) (cs := cs) hm hro0 ht hoi (by rw [wanted_eq hts]; exact hwv) hD1
        rw [finish_region (fr := { fr with defers := D :: fr.defers }) ht, hoi] at hst
        obtain ⟨y, hy, σ', w', tmps', ds', f1, f2, f3, f4⟩ := g2 N hN σ w { fr with tmps := putT fr.tmps o.dst undef, defers := D :: fr.defers, todo := .inRegion ops ((List.range ops.size).drop (i + 1)) :: k } cs k hm hro hcalm (hD2 _ _ hdf) (put_rel (fr := fr) hts undef_rel o.dst) rfl H hf
        exact ⟨y, hy, σ', w', tmps', ds', f1, f2, f3, .head hst f4⟩
      rename_i l hop
      have hnd : ∀ c, o.op ≠ .defer c := by
        intro c hc
        unfold evOpL ev1 at hop
        rw [hc] at hop
        simp [evSame, evSame0, factV, numOp, hc, evYieldL, evNextsO, isRecover] at hop
      obtain ⟨hl1, hl2⟩ := evOpL_ok hF hM hih hop hnd
      obtain ⟨m1, m2⟩ := bindL_mem h
      obtain ⟨u1, u2⟩ := Up.bind hl1 (fun x _ a ha => (evSeqL_ok hF hM hih ops rest (i + 1) _ _ _ _ _ hrest.symm ha).1) h
      refine ⟨u1, fun N hN σ w fr cs k hm hro hcalm hdf hts ht H hf => ?_⟩
      rw [range_drop _ _ hi] at ht
      have hNl := u2 N hN
      obtain ⟨⟨v1, t1, n1⟩, hx, σ1, w1, v', e1, e2, e3⟩ := hl2 N hNl (cs := cs) hm hro hcalm (env_ok (fr := fr) hts) ht hoi (by rw [wanted_eq hts]; exact hwv) H hf
      rw [finish_region ht, hoi] at e3
      obtain ⟨a, ha, hay⟩ := m1 _ hx
      obtain ⟨g1, g2⟩ := evSeqL_ok hF hM hih ops rest (i + 1) _ _ _ _ _ hrest.symm ha
      obtain ⟨y, hy, σ', w', tmps', ds', f1, f2, f3, f4⟩ := g2 N (fun y hy => hN y (hay y hy)) σ1 w1 { fr with tmps := putT fr.tmps o.dst v', todo := .inRegion ops ((List.range ops.size).drop (i + 1)) :: k } cs k hm (hro.mono e1.more) hcalm (hdf.mono e1.more) (put_rel (fr := fr) (hts.mono e1.more) e2 o.dst) rfl e1.holds (e1.fresh hf)
      exact ⟨y, hay y hy, σ', w', tmps', ds', e1.trans f1, f2, f3, e3.trans f4⟩
    | false =>
      rw [hwv, cond_false] at h
      obtain ⟨hle2, hrec⟩ := evSeqL_ok hF hM hih ops rest (i + 1) _ _ _ _ _ hrest.symm h
      refine ⟨hle2, fun N hN σ w fr cs k hm hro hcalm hdf hts ht H hf => ?_⟩
      rw [range_drop _ _ hi] at ht
      have hsk := st_op_skip (P := P) (cs := cs) (w := w) hm ht (by rw [hoi]; simp only [Option.map_some, Option.getD_some]; rw [wanted_eq hts]; exact hwv)
      rw [finish_region ht, hoi] at hsk
      obtain ⟨x, hx, σ', w', tmps', ds', f1, f2, f3, f4⟩ := hrec N hN σ w { fr with tmps := putT fr.tmps o.dst undef, todo := .inRegion ops ((List.range ops.size).drop (i + 1)) :: k } cs k hm hro hcalm hdf (put_rel (fr := fr) hts undef_rel o.dst) rfl H hf
      exact ⟨x, hx, σ', w', tmps', ds', f1, f2, f3, .head hsk f4⟩

theorem afterL (hih : RecLOK P ih) {dfs : List DV} {l : Nat} {lp : Loop} {t1 : Tr} {n1 : Nat} (hl : t1.mem l = some (.loop lp)) (hlt : l < top) (hb : (lp.state == .busy) = false)
    (h : ih fid rnd ts ((lp.pending.map Item.code).toList ++ k) dfs (Tr.set 24 t1 l (some (.loop { lp with state := .exhausted }))) n1 = .ok outs) :
    Up n1 outs ∧ ∀ N, (∀ x ∈ outs, x.2.2 ≤ N) → ∀ σ w fr cs p, σ l = some p → FrRL σ { fr with todo := k } cs fid rnd ts k dfs → fr.todo = .endRangeFunc p.blk :: k → Holds σ t1.mem w → Fresh σ n1 N →
      ∃ x ∈ outs, ∃ σ' w' v', Ext t1.mem n1 x.2.2 σ σ' x.2.1.mem w w' ∧ VR σ' x.1 v' ∧ EndsL P w fr cs rnd v' w' := by
  obtain ⟨hle, hrec⟩ := hih _ _ _ _ _ _ _ _ h
  refine ⟨hle, fun N hN σ w fr cs p hp hfr htodo H hf => ?_⟩
  obtain ⟨q, d, lp', a0, a0', a1, a2, a3, a4, a5, a6, a7, a8, a9⟩ := H.loop hl
  rw [hp] at a0; cases a0
  have e1 := Ext.setObj (n := n1) H hl hp (o' := .loop { lp with state := .exhausted }) (x' := .loop { lp' with state := .exhausted }) (.loop _ _ p d rfl a2 a3 a4 a5 a6 a7 a8 a9)
  have hrun := run_endLoop (P := P) a0' (by rw [a1]; exact hb)
  have hs := st_endRange (P := P) (cs := cs) (fr := fr) hfr.mode htodo hrun
  have hfr2 : FrRL σ { fr with todo := (lp'.pending.map Item.code).toList ++ k } cs fid rnd ts ((lp.pending.map Item.code).toList ++ k) dfs := ⟨hfr.mode, hfr.kind, hfr.fn, hfr.tmps, by simp only [a2], hfr.defs, hfr.rnd⟩
  obtain ⟨x, hx, σ', w', v', f1, f2, f3⟩ := hrec N hN σ _ _ cs hfr2 (by rw [Tr.mem_set hlt]; exact e1.holds) hf
  rw [Tr.mem_set hlt] at f1
  exact ⟨x, hx, σ', w', v', e1.trans f1, f2, EndsL.head (.one hs) ⟨rfl, rfl⟩ f3⟩

set_option maxHeartbeats 1000000 in
theorem evRangeL_ok (hF : F.ok P) (hM : ∀ g, ∀ m ∈ M g, MemoOK P g m) (hih : RecLOK P ih) {dfs : List DV} {f : Operand} {params : Array Tmp} {assign body : Code}
    (h : evRangeL F M C ih fid rnd ts f params assign body k dfs t n = .ok outs) : FrL P fid rnd ts (.code (.rangeFunc f params assign body) :: k) dfs t n outs := by
  unfold evRangeL at h
  simp only [bind1_eq] at h
  split at h
  case h_2 => cases h
  rename_i g first caps hfv
  have hcaller : ∀ {t0 : Tr} {n0 l : Nat} {l1 : List Res}, evCallL F M C ih g (.func (.yield l) #[] #[] :: caps.toList) t0 n0 = .ok l1 → ∃ row, F g = some row ∧ row.ovl = none := by
    intro t0 n0 l l1 hop
    unfold evCallL at hop
    split at hop
    · rename_i row hrow
      split at hop
      · rename_i hov; exact ⟨row, hrow, hov⟩
      · cases hop
    · cases hop
  split at h
  · -- outermost
    cases hb : Nat.blt (n + 1) top with
    | false => rw [hb] at h; cases h
    | true =>
      rw [hb, cond_true] at h
      have hlt : n + 1 < top := Nat.le_of_ble_eq_true hb
      split at h
      case h_2 => cases h
      rename_i l1 hc
      obtain ⟨row, hrow, hov⟩ := hcaller hc
      obtain ⟨hc1, hcall⟩ := evCallL_ok hF hM hih hc
      have hone : ∀ x ∈ l1, ∀ a, (match x with | (_, t', n') => match t'.mem (n + 1) with
            | some (.loop lp) => bif lp.state == .busy then .error "busy" else
                ih fid none ts ((lp.pending.map Item.code).toList ++ k) (.mark n :: dfs) (Tr.set 24 t' (n + 1) (some (.loop { lp with state := .exhausted }))) n'
            | _ => .error "range over a function" : OutL) = .ok a → ∃ lp, x.2.1.mem (n + 1) = some (.loop lp) ∧ (lp.state == .busy) = false ∧
              ih fid none ts ((lp.pending.map Item.code).toList ++ k) (.mark n :: dfs) (Tr.set 24 x.2.1 (n + 1) (some (.loop { lp with state := .exhausted }))) x.2.2 = .ok a := by
        intro x hx a ha
        obtain ⟨v, t1, n1⟩ := x
        dsimp only at ha
        split at ha
        case h_2 => cases ha
        rename_i lp hlp
        cases hbusy : (lp.state == .busy) with
        | true => rw [hbusy] at ha; cases ha
        | false => rw [hbusy, cond_false] at ha; exact ⟨lp, hlp, hbusy, ha⟩
      obtain ⟨m1, m2⟩ := bindL_mem h
      obtain ⟨u1, u2⟩ := Up.bind hc1 (fun x hx a ha => by
        obtain ⟨lp, h1, h2, h3⟩ := hone x hx a ha
        exact (afterL hih h1 hlt h2 h3).1) h
      refine ⟨⟨u1.1, fun x hx => by have := u1.2 x hx; omega⟩, fun N hN σ w fr cs hfr H hf => ?_⟩
      have hNl := u2 N hN
      obtain ⟨fn, g1, g2, g3, g4, g5⟩ := hF.code g row hrow hov
      have hfe := env_ok (fr := fr) hfr.tmps f _ hfv
      generalize hgf : fr.eval f = fv at hfe
      cases hfe with
      | func g caps caps' hs hv =>
      have hN2 : n + 2 ≤ N := by
        obtain ⟨x, hx⟩ := List.exists_mem_of_ne_nil _ hc1.1
        have := hc1.2 x hx
        have := hNl x hx
        omega
      have n0 : σ n = none := hf n (Nat.le_refl _) (by omega)
      have e1 := Ext.alloc (n := n) (o := .defs (some [])) (x := .deferred (some [])) (p := ⟨w.heap.size, 0, 0, 0⟩) H n0 rfl (.defs _)
      have n1n : (σ.put n ⟨w.heap.size, 0, 0, 0⟩) (n + 1) = none := by
        unfold Sg.put
        rw [if_neg (by omega)]
        exact hf (n + 1) (by omega) (by omega)
      have e2 := Ext.alloc (n := n + 1) (o := .loop { state := .ready, pending := none, fn := fid, tmps := ts.toArray, params, assign, body, defers := n })
        (x := .loop { state := .ready, pending := none, fn := fr.fn, tmps := fr.tmps, params, assign, body, defers := w.heap.size }) (p := ⟨w.heap.size + 1, 0, 0, 0⟩) e1.holds n1n (by simp)
        (.loop _ _ _ ⟨w.heap.size, 0, 0, 0⟩ rfl rfl hfr.fn (by simpa using hfr.tmps.mono (Sg.le.trans (Sg.put_le n0) (Sg.put_le n1n))) rfl rfl rfl (Sg.put_le n1n _ _ Sg.put_same) rfl)
      have e12 := e1.trans e2
      have hmem : (Tr.set 24 (Tr.set 24 t n (some (.defs (some [])))) (n + 1) (some (.loop { state := .ready, pending := none, fn := fid, tmps := ts.toArray, params, assign, body, defers := n }))).mem =
          fun j => if j = n + 1 then some (.loop { state := .ready, pending := none, fn := fid, tmps := ts.toArray, params, assign, body, defers := n }) else if j = n then some (.defs (some [])) else t.mem j := by
        rw [Tr.mem_set hlt, Tr.mem_set (by omega)]
      have hyl : LR ((σ.put n ⟨w.heap.size, 0, 0, 0⟩).put (n + 1) ⟨w.heap.size + 1, 0, 0, 0⟩) (.func (.yield (n + 1)) #[] #[] :: caps.toList) (.func (.yield (w.heap.size + 1)) #[] #[] :: caps'.toList) :=
        LR.cons (.yield (n + 1) _ Sg.put_same) ((LR.ofAgg hs hv).mono e12.more)
      have hdef : DRL σ dfs fr.defers := hfr.defs
      obtain ⟨x, hx, σ3, w3, v3, f1, f2, f3⟩ := hcall N hNl _ _ _ { fr with todo := .inRangeFunc (w.heap.size + 1) :: k, defers := [{ target := .collected w.heap.size, args := #[] }] ++ fr.defers } cs hyl
        (by rw [hmem]; exact e2.holds) (e12.fresh hf)
      rw [hmem] at f1
      have e123 := e12.trans f1
      have hfresh3 := e123.fresh hf
      have hl3 : σ3 (n + 1) = some ⟨w.heap.size + 1, 0, 0, 0⟩ := f1.more _ _ Sg.put_same
      have hn3 : σ3 n = some ⟨w.heap.size, 0, 0, 0⟩ := f1.more _ _ (Sg.put_le n1n _ _ Sg.put_same)
      have hst := st_rangeFunc (P := P) (cs := cs) (fr := fr) (w := w) (w' := (w.alloc (.deferred (some []))).alloc (.loop { state := .ready, pending := none, fn := fr.fn, tmps := fr.tmps, params, assign, body, defers := w.heap.size }))
        (l := w.heap.size + 1) (mark := [{ target := .collected w.heap.size, args := #[] }]) hfr.mode hfr.todo (by
          have hro : fr.roundOf = none := hfr.rnd
          simp [Instr.enterLoop, hro, Sem.run_bind]) hgf g1 (by rw [g2]; rfl) g5
      have happ : (#[Value.func (.yield (w.heap.size + 1)) #[] #[]] ++ caps') = (Value.func (.yield (w.heap.size + 1)) #[] #[] :: caps'.toList).toArray := by apply Array.ext'; simp
      rw [happ] at hst
      obtain ⟨a, ha, hay⟩ := m1 x hx
      obtain ⟨lp, h1, h2, h3⟩ := hone x hx a ha
      obtain ⟨_, hafter⟩ := afterL hih h1 hlt h2 h3
      obtain ⟨y, hy, σ4, w4, v4, q1, q2, q3⟩ := hafter N (fun y hy => hN y (hay y hy)) σ3 w3 { fr with todo := .endRangeFunc (w.heap.size + 1) :: k, defers := [{ target := .collected w.heap.size, args := #[] }] ++ fr.defers } cs ⟨w.heap.size + 1, 0, 0, 0⟩ hl3
        ⟨hfr.mode, hfr.kind, hfr.fn, hfr.tmps.mono e123.more, rfl, .mark n _ dfs fr.defers hn3 (hdef.mono e123.more), hfr.rnd.mono e123.more⟩ rfl f1.holds hfresh3
      exact ⟨y, hay y hy, σ4, w4, v4, e123.trans q1, q2, EndsL.head (.head hst f3) ⟨rfl, rfl⟩ q3⟩
  · -- in a round
    rename_i l
    split at h
    case h_2 => cases h
    rename_i lp0 hlp0
    cases hb : Nat.blt n top with
    | false => rw [hb] at h; cases h
    | true =>
      rw [hb, cond_true] at h
      have hlt : n < top := Nat.le_of_ble_eq_true hb
      split at h
      case h_2 => cases h
      rename_i l1 hc
      obtain ⟨row, hrow, hov⟩ := hcaller hc
      obtain ⟨hc1, hcall⟩ := evCallL_ok hF hM hih hc
      have hone : ∀ x ∈ l1, ∀ a, (match x with | (_, t', n') => match t'.mem n with
            | some (.loop lp) => bif lp.state == .busy then .error "busy" else
                ih fid (some l) ts ((lp.pending.map Item.code).toList ++ k) dfs (Tr.set 24 t' n (some (.loop { lp with state := .exhausted }))) n'
            | _ => .error "range over a function" : OutL) = .ok a → ∃ lp, x.2.1.mem n = some (.loop lp) ∧ (lp.state == .busy) = false ∧
              ih fid (some l) ts ((lp.pending.map Item.code).toList ++ k) dfs (Tr.set 24 x.2.1 n (some (.loop { lp with state := .exhausted }))) x.2.2 = .ok a := by
        intro x hx a ha
        obtain ⟨v, t1, n1⟩ := x
        dsimp only at ha
        split at ha
        case h_2 => cases ha
        rename_i lp hlp
        cases hbusy : (lp.state == .busy) with
        | true => rw [hbusy] at ha; cases ha
        | false => rw [hbusy, cond_false] at ha; exact ⟨lp, hlp, hbusy, ha⟩
      obtain ⟨m1, m2⟩ := bindL_mem h
      obtain ⟨u1, u2⟩ := Up.bind hc1 (fun x hx a ha => by
        obtain ⟨lp, h1, h2, h3⟩ := hone x hx a ha
        exact (afterL hih h1 hlt h2 h3).1) h
      refine ⟨⟨u1.1, fun x hx => by have := u1.2 x hx; omega⟩, fun N hN σ w fr cs hfr H hf => ?_⟩
      have hNl := u2 N hN
      obtain ⟨fn, g1, g2, g3, g4, g5⟩ := hF.code g row hrow hov
      have hfe := env_ok (fr := fr) hfr.tmps f _ hfv
      generalize hgf : fr.eval f = fv at hfe
      cases hfe with
      | func g caps caps' hs hv =>
      have hN2 : n + 1 ≤ N := by
        obtain ⟨x, hx⟩ := List.exists_mem_of_ne_nil _ hc1.1
        have := hc1.2 x hx
        have := hNl x hx
        omega
      obtain ⟨p0, d0, lp0', a0, a0', a1, a2, a3, a4, a5, a6, a7, a8, a9⟩ := H.loop hlp0
      obtain ⟨q0, hq0, hro⟩ := hfr.rnd
      rw [a0] at hq0; cases hq0
      have n0 : σ n = none := hf n (Nat.le_refl _) (by omega)
      have e1 := Ext.alloc (n := n) (o := .loop { state := .ready, pending := none, fn := fid, tmps := ts.toArray, params, assign, body, defers := lp0.defers })
        (x := .loop { state := .ready, pending := none, fn := fr.fn, tmps := fr.tmps, params, assign, body, defers := lp0'.defers }) (p := ⟨w.heap.size, 0, 0, 0⟩) H n0 rfl
        (.loop _ _ _ d0 rfl rfl hfr.fn (by simpa using hfr.tmps.mono (Sg.put_le n0)) rfl rfl rfl (Sg.put_le n0 _ _ a8) a9)
      have hyl : LR (σ.put n ⟨w.heap.size, 0, 0, 0⟩) (.func (.yield n) #[] #[] :: caps.toList) (.func (.yield w.heap.size) #[] #[] :: caps'.toList) :=
        LR.cons (.yield n _ Sg.put_same) ((LR.ofAgg hs hv).mono e1.more)
      have hdef : DRL σ dfs fr.defers := hfr.defs
      obtain ⟨x, hx, σ3, w3, v3, f1, f2, f3⟩ := hcall N hNl _ _ _ { fr with todo := .inRangeFunc w.heap.size :: k, defers := [] ++ fr.defers } cs hyl
        (by rw [Tr.mem_set hlt]; exact e1.holds) (e1.fresh hf)
      rw [Tr.mem_set hlt] at f1
      have e123 := e1.trans f1
      have hfresh3 := e123.fresh hf
      have hl3 : σ3 n = some ⟨w.heap.size, 0, 0, 0⟩ := f1.more _ _ Sg.put_same
      have hst := st_rangeFunc (P := P) (cs := cs) (fr := fr) (w := w) (w' := w.alloc (.loop { state := .ready, pending := none, fn := fr.fn, tmps := fr.tmps, params, assign, body, defers := lp0'.defers }))
        (l := w.heap.size) (mark := []) hfr.mode hfr.todo (by
          simp [Instr.enterLoop, hro, Sem.run_bind, run_getLoop a0']) hgf g1 (by rw [g2]; rfl) g5
      have happ : (#[Value.func (.yield w.heap.size) #[] #[]] ++ caps') = (Value.func (.yield w.heap.size) #[] #[] :: caps'.toList).toArray := by apply Array.ext'; simp
      rw [happ] at hst
      obtain ⟨a, ha, hay⟩ := m1 x hx
      obtain ⟨lp, h1, h2, h3⟩ := hone x hx a ha
      obtain ⟨_, hafter⟩ := afterL hih h1 hlt h2 h3
      obtain ⟨y, hy, σ4, w4, v4, q1, q2, q3⟩ := hafter N (fun y hy => hN y (hay y hy)) σ3 w3 { fr with todo := .endRangeFunc w.heap.size :: k, defers := [] ++ fr.defers } cs ⟨w.heap.size, 0, 0, 0⟩ hl3
        ⟨hfr.mode, hfr.kind, hfr.fn, hfr.tmps.mono e123.more, rfl, hdef.mono e123.more, hfr.rnd.mono e123.more⟩ rfl f1.holds hfresh3
      exact ⟨y, hay y hy, σ4, w4, v4, e123.trans q1, q2, EndsL.head (.head hst f3) ⟨rfl, rfl⟩ q3⟩

set_option maxHeartbeats 1000000 in
theorem stepL_ok (hF : F.ok P) (hM : ∀ g, ∀ m ∈ M g, MemoOK P g m) (hih : RecLOK P ih) (hD : DrOK P (one ih) (D (one ih))) : RecLOK P (stepL P F M C ih D) := by
  intro fid rnd ts todo dfs t n outs h
  unfold stepL at h
  simp only [bind1_eq] at h
  split at h
  · exact leaveL_ok hF hih h .over fun _ => .inl rfl
  · rename_i c k
    split at h
    · exact recL_to hih (t1 := t) (fun fr cs w σ hfr => st_skip hfr.mode hfr.todo) h
    · exact recL_to hih (t1 := t) (fun fr cs w σ hfr => st_label hfr.mode hfr.todo) h
    · exact leaveL_ok hF hih h (.ret _) fun _ => .inr ⟨_, rfl⟩
    · exact recL_to hih (t1 := t) (fun fr cs w σ hfr => st_seq hfr.mode hfr.todo) h
    · rename_i x a b
      split at h
      · rename_i hx
        exact recL_to hih (t1 := t) (fun fr cs w σ hfr => by
          have := env_ok (fr := fr) hfr.tmps _ _ hx
          generalize hg : fr.eval x = y at this
          cases this
          exact st_cond (b := true) hfr.mode hfr.todo hg) h
      · rename_i hx
        exact recL_to hih (t1 := t) (fun fr cs w σ hfr => by
          have := env_ok (fr := fr) hfr.tmps _ _ hx
          generalize hg : fr.eval x = y at this
          cases this
          exact st_cond (b := false) hfr.mode hfr.todo hg) h
      · cases h
    · exact recL_to hih (t1 := t) (fun fr cs w σ hfr => st_block hfr.mode hfr.todo) h
    · exact recL_to hih (t1 := t) (fun fr cs w σ hfr => st_loop hfr.mode hfr.todo) h
    · exact recL_to hih (t1 := t) (fun fr cs w σ hfr => st_scope hfr.mode hfr.todo) h
    · rename_i l
      split at h
      · rename_i k' hk'
        exact recL_to hih (t1 := t) (fun fr cs w σ hfr => st_exit hfr.mode hfr.todo hk') h
      · rename_i hk'
        split at h
        · exact leaveL_ok hF hih h (.exit l k hk') fun h => by cases h
        · cases h
    · rename_i l
      split at h
      · rename_i k' hk'
        exact recL_to hih (t1 := t) (fun fr cs w σ hfr => st_goto hfr.mode hfr.todo hk') h
      · rename_i hk'
        split at h
        · exact leaveL_ok hF hih h (.goto l k hk') fun h => by cases h
        · cases h
    · rename_i id ops
      split at h
      case h_2 => cases h
      rename_i l hs
      obtain ⟨s1, s2⟩ := evSeqL_ok hF hM hih ops ops.toList 0 ts _ t n l rfl hs
      obtain ⟨m1, m2⟩ := bindL_mem h
      obtain ⟨u1, u2⟩ := Up.bind s1 (fun x hx a ha => (hih _ _ _ _ _ _ _ _ ha).1) h
      refine ⟨u1, fun N hN σ w fr cs hfr H hf => ?_⟩
      have hcalm : Calm fr cs := by
        rcases hfr.kind with h | ⟨h, _, h2⟩
        · exact .inl h
        · exact .inr ⟨h, h2⟩
      obtain ⟨⟨⟨ts1, dfs1⟩, t1, n1⟩, hx, σ1, w1, tmps', ds', e1, e2, e2d, e3⟩ := s2 N (u2 N hN) σ w { fr with todo := .inRegion ops ((List.range ops.size).drop 0) :: k } cs k hfr.mode hfr.rnd hcalm hfr.defs hfr.tmps rfl H hf
      obtain ⟨a, ha, hay⟩ := m1 _ hx
      obtain ⟨_, hrec⟩ := hih _ _ _ _ _ _ _ _ ha
      obtain ⟨y, hy, σ', w', v', f1, f2, f3⟩ := hrec N (fun y hy => hN y (hay y hy)) σ1 w1 { fr with tmps := tmps', defers := ds', todo := k } cs ⟨hfr.mode, hfr.kind, hfr.fn, e2, rfl, e2d, hfr.rnd.mono e1.more⟩ e1.holds (e1.fresh hf)
      exact ⟨y, hay y hy, σ', w', v', e1.trans f1, f2, EndsL.head (.head (st_region hfr.mode hfr.todo) e3) ⟨rfl, rfl⟩ f3⟩
    · rename_i id ops
      split at h
      case h_2 => cases h
      rename_i ts' t1 n1 hs
      cases hb : Nat.ble n n1 with
      | false => rw [hb] at h; cases h
      | true =>
        rw [hb, cond_true] at h
        have hle := Nat.le_of_ble_eq_true hb
        obtain ⟨h1, hrec⟩ := hih _ _ _ _ _ _ _ _ h
        refine ⟨⟨h1.1, fun x hx => Nat.le_trans hle (h1.2 x hx)⟩, fun N hN σ w fr cs hfr H hf => ?_⟩
        have hN1 : n1 ≤ N := by
          obtain ⟨x, hx⟩ := List.exists_mem_of_ne_nil _ h1.1
          exact Nat.le_trans (h1.2 x hx) (hN x hx)
        obtain ⟨σ1, w1, tmps', e1, e2, e3⟩ := hD ops ts t n ts' t1 n1 hs hle σ w fr cs id k hfr.mode hfr.tmps hfr.todo H (hf.part (Nat.le_refl _) hN1)
        obtain ⟨y, hy, σ', w', v', f1, f2, f3⟩ := hrec N hN σ1 w1 { fr with tmps := tmps', todo := k } cs ⟨hfr.mode, hfr.kind, hfr.fn, e2, rfl, hfr.defs.mono e1.more, hfr.rnd.mono e1.more⟩ e1.holds (e1.fresh hf)
        exact ⟨y, hy, σ', w', v', e1.trans f1, f2, EndsL.head e3 ⟨rfl, rfl⟩ f3⟩
    · exact evRangeL_ok hF hM hih h
    · cases h
  · exact recL_to hih (t1 := t) (fun fr cs w σ hfr => st_inBlock hfr.mode hfr.todo) h
  · exact recL_to hih (t1 := t) (fun fr cs w σ hfr => st_inScope hfr.mode hfr.todo) h
  · exact recL_to hih (t1 := t) (fun fr cs w σ hfr => st_inLoop hfr.mode hfr.todo) h
  · rename_i k
    split at h
    case h_2 => cases h
    rename_i l
    split at h
    case h_2 => cases h
    rename_i lp hlp
    cases hb : (lp.state == .ready && Nat.blt l top) with
    | false => rw [hb] at h; cases h
    | true =>
      rw [hb, cond_true] at h
      simp only [Bool.and_eq_true] at hb
      have hlt : l < top := Nat.le_of_ble_eq_true hb.2
      have hsr : lp.state = .ready := by simpa using hb.1
      obtain ⟨hle, hrec⟩ := hih _ _ _ _ _ _ _ _ h
      refine ⟨hle, fun N hN σ w fr cs hfr H hf => ?_⟩
      obtain ⟨p, d, lp', a0, a0', a1, a2, a3, a4, a5, a6, a7, a8, a9⟩ := H.loop hlp
      obtain ⟨q, hq, hro⟩ := hfr.rnd
      rw [a0] at hq; cases hq
      have e1 := Ext.setObj (n := n) H hlp a0 (o' := .loop { lp with state := .busy }) (x' := .loop { lp' with state := .busy }) (.loop _ _ p d rfl a2 a3 a4 a5 a6 a7 a8 a9)
      have hrun : (Instr.beginRound p.blk).run P w = .ok () { w with heap := w.heap.setIfInBounds p.blk (.loop { lp' with state := .busy }) } := by
        simp only [Instr.beginRound, Sem.run_bind, run_getLoop a0', Result.andThen_ok, setObj_run (P := P) a0' (by intro c e f h; cases h), a1, hsr, Sem.run_pure]
      have hst := st_beginRound (P := P) (cs := cs) hfr.mode hfr.todo hro hrun
      obtain ⟨x, hx, σ', w', v', f1, f2, f3⟩ := hrec N hN σ _ _ cs (hfr.to k) (by rw [Tr.mem_set hlt]; exact e1.holds) hf
      rw [Tr.mem_set hlt] at f1
      exact ⟨x, hx, σ', w', v', e1.trans f1, f2, EndsL.head (.one hst) ⟨rfl, rfl⟩ f3⟩
  · cases h

theorem runL_ok (hF : F.ok P) (hM : ∀ g, ∀ m ∈ M g, MemoOK P g m) (hD : ∀ ih, RecOK P ih → DrOK P ih (D ih)) : ∀ f, RecLOK P (runL P F M C D f)
  | 0 => fun _ _ _ _ _ _ _ _ h => by cases h
  | f + 1 => stepL_ok hF hM (runL_ok hF hM hD f) (hD _ (one_ok (runL_ok hF hM hD f)))

def knownM (P : Program) (F : Book) (M : FuncId → List Memo) (C : FuncId → Bool) (D : Drawn) (fuel : Nat) (g : FuncId) (args : List Value) : OutL :=
  match F g with
  | some row => match row.ovl with
    | none => runL P F M C D fuel g none (args ++ List.replicate (row.ntmps - args.length) undef) [.code row.body] [] .nil name0
    | some _ => .error "overlaps"
  | none => .error "no such function"
def knownL (P : Program) (F : Book) (D : Drawn) (fuel : Nat) (g : FuncId) (args : List Value) : OutL := knownM P F (fun _ => []) (fun _ => false) D fuel g args
def isTrues : OutL → Bool
  | .ok l => l.all fun x => match x with | (.bool true, _, _) => true | _ => false
  | _ => false
def memosOf (l : List (Nat × List Memo)) : FuncId → List Memo := fun g => (lookG l g).getD []
def cutsOf (l : List Nat) : FuncId → Bool := fun g => memN g l
/-- With memos, and with functions whose outcomes are made one. -/
def reckM (P : Program) (T : Told) (L : List (Nat × List Memo)) (K : List Nat) (fuel : Nat) (g : FuncId) (args : List Value) : Bool := isTrues (knownM P (book P T) (memosOf L) (cutsOf K) (drawn P (book P T)) fuel g args)
def reckL (P : Program) (T : Told) (fuel : Nat) (g : FuncId) (args : List Value) : Bool := isTrues (knownL P (book P T) (drawn P (book P T)) fuel g args)

/-- What a call comes to, compared with what is said of it: values, first free names, and of memory what is said. -/
def outsEq : List Res → List (Value × List (Nat × VO) × Nat) → Bool
  | [], [] => true
  | (v, t, n) :: l, (v', d, n') :: m => valEq 60 v v' && Nat.beq n n' && holdsT t d && outsEq l m
  | _, _ => false
def memoCheck (P : Program) (T : Told) (L : List (Nat × List Memo)) (K : List Nat) (fuel : Nat) (g : FuncId) (m : Memo) : Bool :=
  idsIn m.dom && match evCallL (book P T) (memosOf L) (cutsOf K) (runL P (book P T) (memosOf L) (cutsOf K) (drawn P (book P T)) fuel) g m.args (setsT m.dom .nil) m.n with
  | .ok l => outsEq l m.outs
  | .error _ => false

theorem outsEq_ok : ∀ {l : List Res} {m : List (Value × List (Nat × VO) × Nat)}, outsEq l m = true → (∀ x ∈ l, ∃ y ∈ m, x.1 = y.1 ∧ x.2.2 = y.2.2 ∧ holdsT x.2.1 y.2.1 = true) ∧ ∀ y ∈ m, ∃ x ∈ l, x.2.2 = y.2.2
  | [], [], _ => ⟨fun x hx => by simp at hx, fun x hx => by simp at hx⟩
  | (v, t, n) :: l, (v', d, n') :: m, h => by
    simp only [outsEq, Bool.and_eq_true] at h
    obtain ⟨⟨⟨h1, h2⟩, h3⟩, h4⟩ := h
    have h1 := valEq_ok 60 _ _ h1
    have h2 := Nat.eq_of_beq_eq_true h2
    obtain ⟨g1, g2⟩ := outsEq_ok h4
    refine ⟨fun x hx => ?_, fun y hy => ?_⟩
    · rcases List.mem_cons.1 hx with rfl | hx
      · exact ⟨_, List.mem_cons_self, h1, h2, h3⟩
      · obtain ⟨y, hy, hr⟩ := g1 x hx
        exact ⟨y, List.mem_cons_of_mem _ hy, hr⟩
    · rcases List.mem_cons.1 hy with rfl | hy
      · exact ⟨_, List.mem_cons_self, h2⟩
      · obtain ⟨x, hx, hr⟩ := g2 y hy
        exact ⟨x, List.mem_cons_of_mem _ hx, hr⟩
  | [], _ :: _, h => by simp [outsEq] at h
  | _ :: _, [], h => by simp [outsEq] at h

theorem memosOf_ok {L : List (Nat × List Memo)} (hL : ∀ g l, (g, l) ∈ L → ∀ m ∈ l, MemoOK P g m) : ∀ g, ∀ m ∈ memosOf L g, MemoOK P g m := by
  intro g m hm
  unfold memosOf at hm
  cases hl : lookG L g with
  | none => rw [hl] at hm; cases hm
  | some l => rw [hl] at hm; exact hL g l (lookG_mem hl) m hm

theorem memo_ok {T : Told} {L : List (Nat × List Memo)} {K : List Nat} (hmix : P.follows .mixedOrders = true) (hF : (book P T).ok P) (hL : ∀ g l, (g, l) ∈ L → ∀ m ∈ l, MemoOK P g m) {fuel : Nat} {g : FuncId} {m : Memo} (h : memoCheck P T L K fuel g m = true) : MemoOK P g m := by
  have hM := memosOf_ok hL
  have hih := runL_ok (C := cutsOf K) hF hM (fun ih hih => drawn_ok hmix hF hih) fuel
  unfold memoCheck at h
  simp only [Bool.and_eq_true] at h
  obtain ⟨hid, h⟩ := h
  split at h
  case h_2 => cases h
  rename_i l hl
  obtain ⟨⟨u1, u2⟩, hrun⟩ := evCallL_ok hF hM hih hl
  obtain ⟨g1, g2⟩ := outsEq_ok h
  have hmem : (setsT m.dom .nil).mem = memOf m.dom := by
    funext i
    rw [setsT_mem hid]
    cases memOf m.dom i with
    | some o => rfl
    | none => simp [Tr.mem, Tr.get]
  rw [hmem] at hrun
  refine ⟨⟨?_, fun y hy => ?_⟩, fun N hN σ w args' c rest hargs H hf => ?_⟩
  · obtain ⟨x, hx⟩ := List.exists_mem_of_ne_nil _ u1
    obtain ⟨y, hy, _⟩ := g1 x hx
    exact List.ne_nil_of_mem hy
  · obtain ⟨x, hx, he⟩ := g2 y hy
    rw [← he]; exact u2 x hx
  · obtain ⟨x, hx, σ', w', v', e1, e2, e3⟩ := hrun N (fun x hx => by
      obtain ⟨y, hy, _, h2, _⟩ := g1 x hx
      rw [h2]; exact hN y hy) σ w args' c rest hargs H hf
    obtain ⟨y, hy, h1, h2, h3⟩ := g1 x hx
    refine ⟨y, hy, σ', w', v', ?_, by rw [← h1]; exact e2, e3⟩
    rw [← h2]
    exact e1.drop fun i o hi => holdsT_ok h3 hi

theorem callsM_true {P : Program} {T : Told} {L : List (Nat × List Memo)} {K : List Nat} (hmix : P.follows .mixedOrders = true) (hF : (book P T).ok P) (hL : ∀ g l, (g, l) ∈ L → ∀ m ∈ l, MemoOK P g m) {fuel : Nat} {g : FuncId} {args : List Value} (hp : args.all scal = true) (h : reckM P T L K fuel g args = true) (w : World) (hro : ∀ b x, Vars.ro b = some x → w.heap[b]? = some x) :
    Calls P g (args.map concV).toArray w fun e w' => e = .returned (.bool true) ∧ Below w.heap.size w w' := by
  have hih := runL_ok (C := cutsOf K) hF (memosOf_ok hL) (fun ih hih => drawn_ok hmix hF hih) fuel
  intro cs
  unfold reckM isTrues at h
  split at h
  case h_2 => cases h
  rename_i outs hk
  unfold knownM at hk
  split at hk
  case h_2 => cases hk
  rename_i row hrow
  split at hk
  case h_2 => cases hk
  rename_i hov
  obtain ⟨hle, hrun⟩ := hih _ _ _ _ _ _ _ _ hk
  obtain ⟨fn, g1, g2, g3, g4, g5⟩ := hF.code g row hrow hov
  have hargs : LR (fun _ => none) args (args.map concV) := ⟨by simp, fun i a b => by
    rw [List.getElem_map]
    exact scal_rel (List.all_eq_true.1 hp _ (List.getElem_mem a))⟩
  have hfr : FrRL (fun _ => none) (Frame.enter P g (args.map concV).toArray .normal) cs g none (args ++ List.replicate (row.ntmps - args.length) undef) [.code row.body] [] := by
    refine ⟨rfl, .inl rfl, rfl, ?_, ?_, .nil, rfl⟩
    · simp only [Frame.enter, g1, Option.map_some, Option.getD_some, g3]
      simpa using hargs.append (LR.rep (row.ntmps - args.length))
    · simp [Frame.enter, g1, g2]
  have H : Holds (fun _ => none) (Tr.mem .nil) w := ⟨fun i o hi => by simp [Tr.mem, Tr.get] at hi, fun i j o o' p q hi => by simp [Tr.mem, Tr.get] at hi, hro, fun i o p hi => by simp [Tr.mem, Tr.get] at hi⟩
  obtain ⟨N, hN⟩ : ∃ N, ∀ x ∈ outs, x.2.2 ≤ N := by
    clear hk hle hrun h
    induction outs with
    | nil => exact ⟨0, fun x hx => by cases hx⟩
    | cons y l ih =>
      obtain ⟨M, hM⟩ := ih
      refine ⟨max y.2.2 M, fun x hx => ?_⟩
      rcases List.mem_cons.1 hx with rfl | hx
      · exact Nat.le_max_left _ _
      · exact Nat.le_trans (hM x hx) (Nat.le_max_right _ _)
  obtain ⟨x, hx, σ', w', v', e1, e2, e3⟩ := hrun N hN (fun _ => none) w _ cs hfr H (fun _ _ _ => rfl)
  obtain ⟨fr', s1, s2, s3⟩ := e3
  have htrue := List.all_eq_true.1 h x hx
  obtain ⟨v, t1, n1⟩ := x
  dsimp only at htrue e2
  split at htrue
  case h_2 => cases htrue
  rename_i hx2
  cases hx2
  cases e2
  exact ⟨.returned _, w', fr', ⟨rfl, e1.os, e1.tape, e1.output, e1.size, fun k hk => e1.frame k hk fun i o p hi => by simp [Tr.mem, Tr.get] at hi⟩, s1, s2.1, s3.1, s3.2.1, s2.2.trans rfl, s3.2.2⟩

theorem callsL_true {P : Program} {T : Told} (hmix : P.follows .mixedOrders = true) (hT : ∀ f tS, (f, tS) ∈ T.ovl → OvlOK P f tS) (hS : ∀ f, memN f T.sure = true → SureOK P f) (hM : ∀ f l, (f, l) ∈ T.made → MadeOK P f l) (hA : ∀ f l, (f, l) ∈ T.ans → ∀ args v, (args, v) ∈ l → AnsOK P f args v) {fuel : Nat} {g : FuncId} {args : List Value} (hp : args.all scal = true) (h : reckL P T fuel g args = true) (w : World) (hro : ∀ b x, Vars.ro b = some x → w.heap[b]? = some x) :
    Calls P g (args.map concV).toArray w fun e w' => e = .returned (.bool true) ∧ Below w.heap.size w w' :=
  callsM_true (L := []) (K := []) hmix (book_ok P T hT hS hM hA) (fun g l h => by cases h) hp h w hro

end
end
end Ev
end Go.Proofs.YtgidmgkebkodoaaGreatDoor
