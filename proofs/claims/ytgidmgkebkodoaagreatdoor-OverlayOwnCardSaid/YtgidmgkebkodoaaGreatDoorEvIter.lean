/- A run on closed data, reckoned by the kernel: ranges over texts, and over maps where but one thing may come next. -/
import Derived.Test.YtgidmgkebkodoaaGreatDoorEvMap
set_option linter.unusedSimpArgs false
set_option linter.unusedVariables false
set_option linter.unusedSectionVars false
namespace Go.Proofs.YtgidmgkebkodoaaGreatDoor
open Go.RowKit
namespace Ev
variable [Vars]
section
variable {P : Program} {σ : Sg} {w : World} {t : Tr} {n : Nat} {o : Oper} {ρ : Operand → Value}

def evRangeI (P : Program) (t : Tr) (n : Nat) (ty : TypeId) (x : Value) : Option Nx :=
  match P.underlying ty, x with
  | some .string, .string s => bif Nat.blt n top then some (.val (.pointer (some ⟨n, 0, none⟩)) (Tr.set 24 t n (some (.siter s 0))) (n + 1)) else none
  | some (.map _ _), .map none => bif Nat.blt n top then some (.val (.pointer (some ⟨n, 0, none⟩)) (Tr.set 24 t n (some (.miter none 0 [] 0))) (n + 1)) else none
  | some (.map _ _), .map (some m) => match t.mem m with
    | some (.map _ c) => bif Nat.blt n top then some (.val (.pointer (some ⟨n, 0, none⟩)) (Tr.set 24 t n (some (.miter (some m) c [] c))) (n + 1)) else none
    | _ => none
  | _, _ => none
theorem OpOK.obj {v : VO} {x : Obj} {h : Nat.blt n top = true} (H : Holds σ t.mem w) (hx : ∀ p : Pl, p.base = 0 → OR (σ.put n p) v p x) (hrun : (execOp ρ o).run P w = .ok (.value (.pointer (some ⟨w.heap.size, 0, none⟩))) (w.alloc x)) :
    OpOK P o ρ w σ t.mem n (.val (.pointer (some ⟨n, 0, none⟩)) (Tr.set 24 t n (some v)) (n + 1)) := by
  intro hf
  have hn : σ n = none := hf n (Nat.le_refl _) (Nat.lt_succ_self _)
  have e1 := Ext.alloc H hn (o := v) (x := x) (p := ⟨w.heap.size, 0, 0, 0⟩) rfl (hx _ rfl)
  exact ⟨_, _, .pointer (some ⟨w.heap.size, 0 + 0, none⟩), by rw [Tr.mem_set (Nat.le_of_ble_eq_true h)]; exact e1, .ptr n 0 ⟨w.heap.size, 0, 0, 0⟩ Sg.put_same, .inl hrun⟩
theorem evRangeI_ok {ty : TypeId} {x x' : Value} {y : Nx} (H : Holds σ t.mem w) (hx : VR σ x x') (h : evRangeI P t n ty x = some y) (hop : (execOp ρ o) = (do let v ← Instr.range ty x'; pure (.value v))) : OpOK P o ρ w σ t.mem n y := by
  unfold evRangeI at h
  split at h
  · rename_i s hu
    cases hx
    cases hb : Nat.blt n top with
    | false => rw [hb] at h; cases h
    | true =>
      rw [hb, cond_true, Option.some.injEq] at h
      subst h
      exact OpOK.obj (h := hb) H (x := .stringIter s 0) (fun p hp => .siter s 0 p hp) (by rw [hop]; simp [Instr.range, Sem.run_bind, run_underlying hu])
  · rename_i kt et hu
    cases hx
    cases hb : Nat.blt n top with
    | false => rw [hb] at h; cases h
    | true =>
      rw [hb, cond_true, Option.some.injEq] at h
      subst h
      exact OpOK.obj (h := hb) H (x := .mapIter none 0 #[] 0) (fun p hp => .miter0 0 [] 0 p hp) (by rw [hop]; simp [Instr.range, Sem.run_bind, run_underlying hu])
  · rename_i kt et m hu
    split at h
    case h_2 => cases h
    rename_i l c hm
    cases hb : Nat.blt n top with
    | false => rw [hb] at h; cases h
    | true =>
      rw [hb, cond_true, Option.some.injEq] at h
      subst h
      cases hx with
      | map m p hp =>
      obtain ⟨q, ob, k1, k2, k3⟩ := H.lies _ _ hm
      rw [hp] at k1; cases k1
      cases k3 with
      | map l l' c p hmr =>
      intro hf
      have hn : σ n = none := hf n (Nat.le_refl _) (Nat.lt_succ_self _)
      refine OpOK.obj (h := hb) H (x := .mapIter (some p.blk) c #[] c) (fun r hr => .miter m p (Sg.put_le hn _ _ hp) c [] c r hr) ?_ hf
      rw [hop]
      simp [Instr.range, Sem.run_bind, run_underlying hu, MapKept.run_getObj_map k2]
  · cases h

/-- What may come next of a map. -/
def candOf (es : List MapEntry) (since : Nat) (seen : List Nat) : List (Option MapEntry) :=
  let left := es.filter fun e => !seen.contains e.born
  let old := left.filter fun e => decide (e.born < since)
  let new := left.filter fun e => decide (e.born ≥ since)
  (if old.isEmpty then [none] else []) ++ (old ++ new).map some
def gapOf (es : List MapEntry) (seen : List Nat) (last : Nat) : Bool := !seen.isEmpty && !es.isEmpty && es.all fun e => decide (e.born ≥ last)
theorem MR.filter {l l' : List MapEntry} (h : MR σ l l') (f : Nat → Bool) : MR σ (l.filter fun e => f e.born) (l'.filter fun e => f e.born) := by
  induction h with
  | nil => exact .nil
  | @cons e e' l l' hk hv hb hm ih =>
    simp only [List.filter_cons, hb]
    split
    · exact .cons hk hv hb ih
    · exact ih
theorem MR.append {a a' b b' : List MapEntry} (h : MR σ a a') (h2 : MR σ b b') : MR σ (a ++ b) (a' ++ b') := by
  induction h with
  | nil => exact h2
  | cons hk hv hb _ ih => exact .cons hk hv hb ih
theorem MR.gap {l l' : List MapEntry} (h : MR σ l l') (seen : List Nat) (last : Nat) : gapOf l' seen last = gapOf l seen last := by
  have h1 : l'.isEmpty = l.isEmpty := by cases h <;> rfl
  have h2 : (l'.all fun e => decide (e.born ≥ last)) = l.all fun e => decide (e.born ≥ last) := by
    clear h1
    induction h with
    | nil => rfl
    | cons hk hv hb _ ih => simp only [List.all_cons, ih, hb]
  simp only [gapOf, h1, h2]
theorem cand_rel {l l' : List MapEntry} (h : MR σ l l') (since : Nat) (seen : List Nat) :
    (candOf l since seen = [none] → candOf l' since seen = [none]) ∧ (∀ e, candOf l since seen = [some e] → ∃ e', candOf l' since seen = [some e'] ∧ VR σ e.key e'.key ∧ VR σ e.val e'.val ∧ e.born = e'.born) := by
  have h0 := h.filter fun b => !seen.contains b
  have h1 := h0.filter fun b => decide (b < since)
  have h2 := h0.filter fun b => decide (b ≥ since)
  unfold candOf
  dsimp only
  generalize (List.filter (fun e => decide (e.born < since)) (List.filter (fun e => !seen.contains e.born) l)) = a at h1
  generalize (List.filter (fun e => decide (e.born < since)) (List.filter (fun e => !seen.contains e.born) l')) = a' at h1
  generalize (List.filter (fun e => decide (e.born ≥ since)) (List.filter (fun e => !seen.contains e.born) l)) = b at h2
  generalize (List.filter (fun e => decide (e.born ≥ since)) (List.filter (fun e => !seen.contains e.born) l')) = b' at h2
  cases h1 with
  | nil =>
    cases h2 with
    | nil => exact ⟨fun _ => rfl, fun e he => by simp at he⟩
    | cons hk hv hb hm => exact ⟨fun he => by simp at he, fun e he => by simp at he⟩
  | cons hk hv hb hm =>
    refine ⟨fun he => by simp at he, fun e he => ?_⟩
    simp at he
    obtain ⟨rfl, rfl, rfl⟩ := he
    cases hm
    cases h2
    exact ⟨_, rfl, hk, hv, hb⟩

def evNext (t : Tr) (x : Value) (str : Bool) : Option (Value × Tr) :=
  match x with
  | .pointer (some ⟨r, 0, none⟩) => match t.mem r, str with
    | some (.siter s pos), true => bif Nat.blt pos s.size && Nat.blt r top then
        match Utf8.decode s pos with
        | (c, k) => some (.tuple #[.bool true, goInt pos, .int .i32 c], Tr.set 24 t r (some (.siter s (pos + k))))
      else bif Nat.blt pos s.size then none else some (.tuple #[.bool false], t)
    | some (.miter none _ _ _), false => some (.tuple #[.bool false], t)
    | some (.miter (some m) since seen last), false => match t.mem m with
      | some (.map es clock) => bif gapOf es seen last then none else
          match candOf es since seen with
          | [none] => some (.tuple #[.bool false], t)
          | [some e] => bif Nat.blt r top then some (.tuple #[.bool true, e.key, e.val], Tr.set 24 t r (some (.miter (some m) since (seen ++ [e.born]) clock))) else none
          | _ => none
      | _ => none
    | _, _ => none
  | _ => none
theorem run_getObj_any {r : Nat} {x : Obj} (h : w.heap[r]? = some x) (hc : ∀ c e f, x ≠ .cells c e f) : (getObj r).run P w = .ok x w := by
  cases x <;> first | exact absurd rfl (hc _ _ _) | simp [getObj, Sem.run, h]
theorem run_setObj_any {r : Nat} {x : Obj} (y : Obj) (h : w.heap[r]? = some x) (hc : ∀ c e f, x ≠ .cells c e f) : (setObj r y).run P w = .ok () { w with heap := w.heap.setIfInBounds r y } := by
  cases x <;> first | exact absurd rfl (hc _ _ _) | simp [setObj, Sem.run, h]
theorem run_choose1 : (choose (.mapNext 1)).run P w = .ok 0 w := by simp [choose, Sem.run, Question.forced]
theorem cands_list (es : List MapEntry) (since : Nat) (seen : List Nat) :
    ((if (((es.toArray.filter fun e => !seen.toArray.contains e.born).filter fun e => decide (e.born < since)).isEmpty = true) then #[none] else #[]) ++
      (((es.toArray.filter fun e => !seen.toArray.contains e.born).filter fun e => decide (e.born < since)) ++ ((es.toArray.filter fun e => !seen.toArray.contains e.born).filter fun e => decide (e.born ≥ since))).map some) = (candOf es since seen).toArray := by
  unfold candOf
  simp only [List.filter_toArray, List.isEmpty_toArray, List.contains_toArray]
  split <;> simp
theorem evNext_ok {x x' v : Value} {str : Bool} {ty : TypeId} {t' : Tr} (H : Holds σ t.mem w) (hx : VR σ x x') (h : evNext t x str = some (v, t')) :
    ∃ w' v', Ext t.mem n n σ σ t'.mem w w' ∧ VR σ v v' ∧ (Instr.next x' str ty).run P w = .ok v' w' := by
  have over : VR σ (.tuple #[.bool false]) (.tuple #[.bool false]) := plain_rel 4 _ rfl
  unfold evNext at h
  split at h
  case h_2 => cases h
  rename_i r
  obtain ⟨p, hp, rfl⟩ := hx.addr
  split at h
  · rename_i s pos hm
    obtain ⟨q, ob, k1, k2, k3⟩ := H.lies _ _ hm
    rw [hp] at k1; cases k1
    cases k3 with
    | siter s pos p hb =>
    rw [hb]
    cases hc : (Nat.blt pos s.size && Nat.blt r top) with
    | true =>
      rw [hc, cond_true] at h
      simp only [Bool.and_eq_true] at hc
      have h1 : pos < s.size := Nat.le_of_ble_eq_true hc.1
      have h2 : r < top := Nat.le_of_ble_eq_true hc.2
      obtain ⟨c, k, hd⟩ : ∃ c k, Utf8.decode s pos = (c, k) := ⟨_, _, rfl⟩
      rw [hd] at h
      simp only [Option.some.injEq, Prod.mk.injEq] at h
      obtain ⟨rfl, rfl⟩ := h
      have e1 := Ext.setObj (n := n) H hm hp (o' := .siter s (pos + k)) (x' := .stringIter s (pos + k)) (.siter s (pos + k) p hb)
      refine ⟨_, .tuple #[.bool true, goInt pos, .int .i32 c], by rw [Tr.mem_set h2]; exact e1, plain_rel 4 _ rfl, ?_⟩
      simp [Instr.next, Sem.run_bind, run_getObj_any k2 (by simp), h1, hd, run_setObj_any _ k2 (by simp)]
    | false =>
      rw [hc, cond_false] at h
      cases h1 : Nat.blt pos s.size with
      | true => rw [h1] at h; cases h
      | false =>
        rw [h1, cond_false] at h
        cases h
        have h2 : ¬ pos < s.size := fun h3 => by
          have h4 : Nat.blt pos s.size = true := Nat.ble_eq_true_of_le h3
          rw [h4] at h1; cases h1
        refine ⟨w, _, Ext.refl H, over, ?_⟩
        simp [Instr.next, Sem.run_bind, run_getObj_any k2 (by simp), h2]
  · rename_i a l b hm
    obtain ⟨q, ob, k1, k2, k3⟩ := H.lies _ _ hm
    rw [hp] at k1; cases k1
    cases k3 with
    | miter0 a l b p hb =>
    rw [hb]
    cases h
    refine ⟨w, _, Ext.refl H, over, ?_⟩
    simp [Instr.next, Sem.run_bind, run_getObj_any k2 (by simp)]
  · rename_i m since seen last hm
    split at h
    case h_2 => cases h
    rename_i es clock hes
    obtain ⟨q, ob, k1, k2, k3⟩ := H.lies _ _ hm
    rw [hp] at k1; cases k1
    cases k3 with
    | miter m qm hqm a l b p hb =>
    rw [hb]
    obtain ⟨q2, ob2, j1, j2, j3⟩ := H.lies _ _ hes
    rw [hqm] at j1; cases j1
    cases j3 with
    | map es es' clock qm hmr =>
    cases hg : gapOf es seen last with
    | true => rw [hg] at h; cases h
    | false =>
    rw [hg, cond_false] at h
    have hg' := hmr.gap seen last
    rw [hg] at hg'
    have hgm : (!seen.toArray.isEmpty && !es'.toArray.isEmpty && es'.toArray.all fun e => decide (e.born ≥ last)) = false := by
      simpa [gapOf] using hg'
    obtain ⟨c1, c2⟩ := cand_rel hmr since seen
    have hcs := cands_list es' since seen
    split at h
    · rename_i hc
      cases h
      rw [c1 hc] at hcs
      refine ⟨w, _, Ext.refl H, over, ?_⟩
      simp only [Instr.next, Sem.run_bind, run_getObj_any k2 (by simp), Result.andThen_ok, run_getObj_any j2 (by simp), hgm, hcs]
      rw [if_neg (by decide), Sem.run_bind]
      show ((choose (.mapNext 1)).run P w).andThen _ = _
      rw [run_choose1]
      rfl
    · rename_i e hc
      obtain ⟨e', d1, d2, d3, d4⟩ := c2 e hc
      rw [d1] at hcs
      cases hrt : Nat.blt r top with
      | false => rw [hrt] at h; cases h
      | true =>
      rw [hrt, cond_true] at h
      simp only [Option.some.injEq, Prod.mk.injEq] at h
      obtain ⟨rfl, rfl⟩ := h
      have e1 := Ext.setObj (n := n) H hm hp (o' := .miter (some m) since (seen ++ [e.born]) clock) (x' := .mapIter (some qm.blk) since (seen ++ [e.born]).toArray clock) (.miter m qm hqm since (seen ++ [e.born]) clock p hb)
      refine ⟨_, .tuple #[.bool true, e'.key, e'.val], by rw [Tr.mem_set (Nat.le_of_ble_eq_true hrt)]; exact e1, VR.mkTuple (LR.cons (.bool true) (LR.cons d2 (LR.cons d3 LR.nil))), ?_⟩
      simp only [Instr.next, Sem.run_bind, run_getObj_any k2 (by simp), Result.andThen_ok, run_getObj_any j2 (by simp), hgm, hcs]
      rw [if_neg (by decide), Sem.run_bind]
      show ((choose (.mapNext 1)).run P w).andThen _ = _
      rw [run_choose1]
      simp only [Result.andThen_ok]
      show (do setObj p.blk (Obj.mapIter (some qm.blk) since (seen.toArray.push e'.born) clock); pure (Value.tuple #[Value.bool true, e'.key, e'.val]) : Sem Value).run P w = _
      rw [Sem.run_bind, run_setObj_any _ k2 (by simp), d4]
      simp
    · cases h
  · cases h

/-- The entry at which a range over a map stands. -/
def evEntry (t : Tr) (x : Value) : Option Value :=
  match x with
  | .pointer (some ⟨r, 0, none⟩) => match t.mem r with
    | some (.miter (some m) _ seen stepped) => match seen.getLast?, t.mem m with
      | some stamp, some (.map es clock) => bif Nat.beq clock stepped then
          match es.find? (fun e => Nat.beq e.born stamp) with
          | some e => some (.tuple #[e.key, e.val])
          | none => none
        else none
      | _, _ => none
    | _ => none
  | _ => none
theorem MR.find {l l' : List MapEntry} (h : MR σ l l') (f : Nat → Bool) {e : MapEntry} (he : l.find? (fun e => f e.born) = some e) : ∃ e', l'.find? (fun e => f e.born) = some e' ∧ VR σ e.key e'.key ∧ VR σ e.val e'.val := by
  induction h with
  | nil => simp at he
  | @cons a a' l l' hk hv hb hm ih =>
    simp only [List.find?_cons, hb] at he ⊢
    split at he
    · cases he; exact ⟨a', by simp_all, hk, hv⟩
    · obtain ⟨e', h1, h2⟩ := ih he
      exact ⟨e', by simp_all, h2⟩
theorem beq_eqN (a b : Nat) : Nat.beq a b = (a == b) := by
  by_cases h : a = b
  · rw [beqT h]; simp [h]
  · rw [beqF h]; simp [h]
theorem evEntry_ok {x x' v : Value} (H : Holds σ t.mem w) (hx : VR σ x x') (h : evEntry t x = some v) : ∃ v', VR σ v v' ∧ (Instr.entry x').run P w = .ok v' w := by
  unfold evEntry at h
  split at h
  case h_2 => cases h
  rename_i r
  obtain ⟨p, hp, rfl⟩ := hx.addr
  split at h
  case h_2 => cases h
  rename_i m since seen stepped hm
  split at h
  case h_2 => cases h
  rename_i stamp es clock hst hes
  cases hc : Nat.beq clock stepped with
  | false => rw [hc] at h; cases h
  | true =>
  rw [hc, cond_true] at h
  have hc := Nat.eq_of_beq_eq_true hc
  subst hc
  split at h
  case h_2 => cases h
  rename_i e he
  cases h
  obtain ⟨q, ob, k1, k2, k3⟩ := H.lies _ _ hm
  rw [hp] at k1; cases k1
  cases k3 with
  | miter m qm hqm a l b p hb =>
  rw [hb]
  obtain ⟨q2, ob2, j1, j2, j3⟩ := H.lies _ _ hes
  rw [hqm] at j1; cases j1
  cases j3 with
  | map es es' clock qm hmr =>
  obtain ⟨e', f1, f2, f3⟩ := hmr.find (fun b => Nat.beq b stamp) he
  refine ⟨.tuple #[e'.key, e'.val], VR.mkTuple (LR.cons f2 (LR.cons f3 LR.nil)), ?_⟩
  have hback : seen.toArray.back? = some stamp := by simpa using hst
  have hfind : es'.toArray.find? (fun e => e.born == stamp) = some e' := by simpa [beq_eqN] using f1
  simp [Instr.entry, Sem.run_bind, run_getObj_any k2 (by simp), run_getObj_any j2 (by simp), hback, hfind]

def evDelete (P : Program) (t : Tr) (t1 : TypeId) (m k : Value) : Option Tr :=
  match P.underlying t1, m with
  | some (.map kt _), .map (some r) => match P.underlying kt, t.mem r with
    | some kd, some (.map l c) => bif keyOK kd k && Nat.blt r top then
        match Instr.findNow kd k l 0 with
        | some (some (i, _)) => some (Tr.set 24 t r (some (.map (l.eraseIdx i) c)))
        | some none => some (Tr.set 24 t r (some (.map l c)))
        | none => none
      else none
    | _, _ => none
  | _, _ => none
theorem evDelete_ok {t1 ty : TypeId} {ts : Array TypeId} {m m' k k' : Value} {t' : Tr} (hts : ts[0]? = some t1) (H : Holds σ t.mem w) (hm : VR σ m m') (hk : VR σ k k') (h : evDelete P t t1 m k = some t') :
    ∃ w', Ext t.mem n n σ σ t'.mem w w' ∧ (Builtin.delete_ ts ty #[m', k']).run P w = .ok (.tuple #[]) w' := by
  unfold evDelete at h
  split at h
  case h_2 => cases h
  rename_i kt et r hu
  split at h
  case h_2 => cases h
  rename_i kd l c hkt hl
  cases hc : (keyOK kd k && Nat.blt r top) with
  | false => rw [hc] at h; cases h
  | true =>
  rw [hc, cond_true] at h
  simp only [Bool.and_eq_true] at hc
  obtain ⟨hko, hr⟩ := hc
  have hr : r < top := Nat.le_of_ble_eq_true hr
  have hie := key_eq hko hk
  subst hie
  cases hm with
  | map r p hp =>
  obtain ⟨q, x, h1, h2, h3⟩ := H.lies _ _ hl
  rw [hp] at h1; cases h1
  cases h3 with
  | map l l' c p hmr =>
  have hg : (#[Value.map (some p.blk), k'] : Array Value)[0]? = some (.map (some p.blk)) := rfl
  have hg1 : (#[Value.map (some p.blk), k'] : Array Value)[1]? = some k' := rfl
  split at h
  · rename_i i u hf
    cases h
    obtain ⟨r', f1, f2⟩ := findNow_rel 0 hmr hf
    rcases f2 with ⟨f2, _⟩ | ⟨j', u', u2, f2, f3, f4⟩
    · cases f2
    cases f2
    subst f3
    have e1 := Ext.setObj (n := n) H hl hp (o' := .map (l.eraseIdx i) c) (x' := .map (l'.eraseIdx i).toArray c) (.map _ _ _ _ (hmr.erase i))
    refine ⟨_, by rw [Tr.mem_set hr]; exact e1, ?_⟩
    simp only [Builtin.delete_, hts, hg, hg1, Sem.run_bind, run_underlying hu, Result.andThen_ok, Sem.run_pure, run_key hkt hko, MapKept.run_getObj_map h2, run_find hkt f1, MapKept.run_setObj_map _ h2]
    simp
  · rename_i hf
    cases h
    obtain ⟨r', f1, f2⟩ := findNow_rel 0 hmr hf
    rcases f2 with ⟨_, f2⟩ | ⟨j', u', u2, f2, f3, f4⟩
    case inr => cases f2
    subst f2
    have e1 := Ext.setObj (n := n) H hl hp (o' := .map l c) (x' := .map l'.toArray c) (.map _ _ _ _ hmr)
    refine ⟨_, by rw [Tr.mem_set hr]; exact e1, ?_⟩
    simp only [Builtin.delete_, hts, hg, hg1, Sem.run_bind, run_underlying hu, Result.andThen_ok, Sem.run_pure, run_key hkt hko, MapKept.run_getObj_map h2, run_find hkt f1, MapKept.run_setObj_map _ h2]
  · cases h
end
end Ev
end Go.Proofs.YtgidmgkebkodoaaGreatDoor
