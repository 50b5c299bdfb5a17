/- A run on closed data, reckoned by the kernel, 8: every operation. -/
import Derived.Test.YtgidmgkebkodoaaGreatDoorEv7
import Derived.Lib.Overlaps
set_option linter.unusedSimpArgs false
set_option linter.unusedVariables false
set_option linter.unusedSectionVars false
namespace Go.Proofs.YtgidmgkebkodoaaGreatDoor
open Go.RowKit
namespace Ev
variable [Vars]

/-- What is told of a function that may be called. -/
structure Row where
  ntmps : Nat
  body : Code
  results : List ResultVar
  ovl : Option TypeId := none
  ins : Bool := false
  sure : Bool := false
  made : Option (List MapEntry) := none
  ans : List (List Value × Value) := []
abbrev Book := FuncId → Option Row
/-- Whatever the world, a call of this function without arguments is true, and leaves all memory as it is. -/
def SureOK (P : Program) (f : FuncId) : Prop := ∀ w, Calls P f #[] w fun e w' => e = .returned (.bool true) ∧ Below w.heap.size w w'
/-- Whatever the world, a call of this function without arguments answers a new map of these entries, in whatever order, and leaves all memory as it is. -/
def MadeOK (P : Program) (f : FuncId) (l : List MapEntry) : Prop := ∀ w, Calls P f #[] w fun e w' => ∃ (b : Nat) (l' : List MapEntry) (k : Nat), e = .returned (.map (some b)) ∧ w.heap.size ≤ b ∧ w'.heap[b]? = some (.map l'.toArray k) ∧ PM l l' ∧ Below w.heap.size w w'
/-- Whatever the world, a call of this function with these arguments answers this, and leaves all memory as it is. -/
def AnsOK (P : Program) (f : FuncId) (args : List Value) (v : Value) : Prop := args.all scal = true ∧ scal v = true ∧ ∀ w, (∀ b x, Vars.ro b = some x → w.heap[b]? = some x) → Calls P f (args.map concV).toArray w fun e w' => e = .returned (concV v) ∧ Below w.heap.size w w'
/-- The model's entry for slices.overlaps stands for this function. -/
def OvlOK (P : Program) (f : FuncId) (tS : TypeId) : Prop := ∃ tR, ∀ (args : Array Value) (w : World), (callFunc f args).run P w = ((Extern.SlicesOverlaps.overlaps #[tS, tS] #[tR] args).run P w).andThen fun v w' => .ok (.value v) w'
structure Book.ok (P : Program) (F : Book) : Prop where
  code : ∀ f row, F f = some row → row.ovl = none → ∃ fn, P.funcs[f]? = some fn ∧ fn.body = some row.body ∧ fn.ntmps = row.ntmps ∧ fn.results.toList = row.results ∧ (fn.name == "runtime.NumGoroutine") = false
  ovl : ∀ f row tS, F f = some row → row.ovl = some tS → OvlOK P f tS
  sure : ∀ f row, F f = some row → row.sure = true → SureOK P f
  made : ∀ f row l, F f = some row → row.made = some l → MadeOK P f l
  ans : ∀ f row args v, F f = some row → (args, v) ∈ row.ans → AnsOK P f args v

section
variable {P : Program} {F : Book} {o : Oper} {ρ : Operand → Value} {w : World} {σ : Sg} {t : Tr} {n : Nat} {r : Env}

theorem lenV_ok {x x' : Value} {m : Nat} (hx : VR σ x x') (h : lenV x = some m) (w : World) : (Builtin.lenOf x').run P w = .ok m w := by
  unfold lenV at h
  split at h
  · cases h
    cases hx <;> rfl
  · cases h
    cases hx
    rw [Array.length_toList]; rfl
  · cases h

/-- So many of the first ones. -/
theorem cut_ok {size l m : Nat} {x x' : Value} {xs : List Value} (H : Holds σ t.mem w) (hx : VR σ x x') (h : srcV t size (cutV l x) = some (m, xs)) (hm : m = l) :
    ∃ ys, LR σ xs ys ∧ ys.length = l * size ∧ (Builtin.firstCells size l x').run P w = .ok ys.toArray w := by
  cases x with
  | slice a n c =>
    cases a with
    | none =>
      cases hx
      obtain ⟨ys, h1, h2, _, h4⟩ := srcV_ok (P := P) H (.sl0 l c) h
      exact ⟨ys, h1, by rw [h2, hm], by rw [← hm]; exact h4 w rfl⟩
    | some ad =>
      cases hx with
      | sl b o n c c' p hp hcc hl =>
      obtain ⟨ys, h1, h2, _, h4⟩ := srcV_ok (P := P) H (.sl b o l c c' p hp hcc hl) h
      exact ⟨ys, h1, by rw [h2, hm], by rw [← hm]; exact h4 w rfl⟩
  | string s =>
    obtain ⟨ys, h1, h2, _, h4⟩ := srcV_ok (P := P) H hx h
    exact ⟨ys, h1, by rw [h2, hm], by rw [← hm]; exact h4 w rfl⟩
  | _ => simp [cutV, srcV] at h

theorem evCopy_ok {t1 t2 ty : TypeId} {d x d' x' : Value} {v : Value} {t' : Tr} (H : Holds σ t.mem w) (hd : VR σ d d') (hx : VR σ x x') (h : evCopy P t t1 d x = some (v, t')) :
    ∃ w' v', Ext t.mem n n σ σ t'.mem w w' ∧ VR σ v v' ∧ (Builtin.copy_ #[t1, t2] ty #[d', x']).run P w = .ok v' w' := by
  unfold evCopy at h
  split at h
  case h_2 => cases h
  rename_i e hu
  have hg0 : (#[t1, t2] : Array TypeId)[0]? = some t1 := rfl
  have ha0 : (#[d', x'] : Array Value)[0]? = some d' := rfl
  have ha1 : (#[d', x'] : Array Value)[1]? = some x' := rfl
  split at h
  · rename_i size k c m hsz hm
    have hlen := lenV_ok (P := P) hx hm w
    cases hk : Nat.beq k 0 with
    | false => rw [hk] at h; cases h
    | true =>
      rw [hk, cond_true] at h
      split at h
      case h_2 => cases h
      rename_i hsrc
      cases h
      have hk := Nat.eq_of_beq_eq_true hk
      subst hk
      obtain ⟨ys, h1, h2, h3⟩ := cut_ok (P := P) H hx hsrc rfl
      have hys : ys = [] := List.eq_nil_of_length_eq_zero (by rw [h2]; simp)
      subst hys
      cases hd
      refine ⟨w, _, Ext.refl H, .int _ _, ?_⟩
      simp only [Builtin.copy_, hg0, ha0, ha1, Sem.run_bind, run_underlying hu, Result.andThen_ok, Sem.run_pure, hlen, run_sizeV hsz, show Nat.min m 0 = 0 from Nat.min_zero m, h3]
      rfl
  · rename_i size b ob k c m hsz hm
    have hlen := lenV_ok (P := P) hx hm w
    split at h
    case h_2 => cases h
    rename_i l xs cs eb es hsrc hb
    cases hc : (Nat.beq l (Nat.min m k) && (Nat.ble (ob + l * size) cs.length || (Nat.beq es size && Nat.blt 0 es && Nat.ble ob cs.length && Nat.ble k c)) && oneCells xs && Nat.blt b top) with
    | false => rw [hc] at h; cases h
    | true =>
      rw [hc, cond_true, Option.some.injEq, Prod.mk.injEq] at h
      obtain ⟨rfl, rfl⟩ := h
      simp only [Bool.and_eq_true] at hc
      have hlm := Nat.eq_of_beq_eq_true hc.1.1.1
      subst hlm
      have c3 : b < top := Nat.le_of_ble_eq_true hc.2
      obtain ⟨ys, hl, hyl, hfm⟩ := cut_ok (P := P) H hx hsrc rfl
      have hxl : xs.length = Nat.min m k * size := hl.1.trans hyl
      cases hd with
      | sl b ob k c c' p hp hcc hll =>
      have hmk2 : Nat.min m k ≤ k := Nat.min_le_right m k
      have c1 : ob ≤ cs.length ∧ (ob + Nat.min m k * size ≤ cs.length ∨ ob + Nat.min m k * size ≤ p.avail) := by
        have h1 := hc.1.1.2
        simp only [Bool.or_eq_true, Bool.and_eq_true] at h1
        rcases h1 with h1 | ⟨⟨⟨h1, h2⟩, h3⟩, h4⟩
        · have := Nat.le_of_ble_eq_true h1
          exact ⟨by omega, .inl this⟩
        · refine ⟨Nat.le_of_ble_eq_true h3, .inr ?_⟩
          have h1 := Nat.eq_of_beq_eq_true h1
          have h2 : 0 < es := Nat.le_of_ble_eq_true h2
          have h4 := Nat.le_of_ble_eq_true h4
          obtain ⟨q, arr, fz, q1, q2, q3, q4, q5, q6, q7⟩ := H.cells hb
          rw [hp] at q1; cases q1
          rcases hll with ⟨h5, _⟩ | ⟨_, h5⟩
          · omega
          · rw [q5, h1] at h5
            have h6 : Nat.min m k * size ≤ c' * size := Nat.mul_le_mul_right _ (by omega)
            omega
      have hst := run_storeRange (P := P) H hb hp (o := ob) (vs' := ys) (by rw [hyl]; exact c1.2) (hl.one hc.1.2)
      refine ⟨_, _, by rw [Tr.mem_set c3]; exact Ext.cells H hb hp c1.1 (by rw [hxl]; exact c1.2) hl, .int _ _, ?_⟩
      simp only [Builtin.copy_, hg0, ha0, ha1, Sem.run_bind, run_underlying hu, Result.andThen_ok, Sem.run_pure, hlen, run_sizeV hsz, hfm, hst]
      rfl
  · cases h

/-- clear(s). -/
def evClear (P : Program) (t : Tr) (t1 : TypeId) (x : Value) : Option Tr :=
  match P.underlying t1, x with
  | some (.slice e), .slice none _ _ => some t
  | some (.slice e), .slice (some ⟨b, o, none⟩) k _ =>
    bif Nat.beq k 0 then some t else
    match zeroV P e, t.mem b with
    | some zs, some (.cells cs eb es) =>
      let vs := repV zs (k * zs.length)
      bif Nat.ble (o + vs.length) cs.length && oneCells vs && Nat.blt b top && Nat.blt 0 zs.length then some (Tr.set 24 t b (some (.cells (splice cs o vs) eb es))) else none
    | _, _ => none
  | _, _ => none

theorem evClear_ok {t1 ty : TypeId} {x x' : Value} {t' : Tr} (H : Holds σ t.mem w) (hx : VR σ x x') (h : evClear P t t1 x = some t') :
    ∃ w', Ext t.mem n n σ σ t'.mem w w' ∧ (Builtin.clear_ #[t1] ty #[x']).run P w = .ok undef w' := by
  have hg0 : (#[t1] : Array TypeId)[0]? = some t1 := rfl
  have ha0 : (#[x'] : Array Value)[0]? = some x' := rfl
  unfold evClear at h
  split at h
  · rename_i e k c hu
    cases h
    cases hx
    refine ⟨w, Ext.refl H, ?_⟩
    simp only [Builtin.clear_, hg0, ha0, Sem.run_bind, run_underlying hu, Result.andThen_ok, Sem.run_pure]
    rfl
  · rename_i e b ob k c hu
    cases hx with
    | sl b ob k c c' p hp hcc hll =>
    cases hk : Nat.beq k 0 with
    | true =>
      rw [hk, cond_true, Option.some.injEq] at h
      subst h
      have hk := Nat.eq_of_beq_eq_true hk
      subst hk
      refine ⟨w, Ext.refl H, ?_⟩
      simp only [Builtin.clear_, hg0, ha0, Sem.run_bind, run_underlying hu, Result.andThen_ok, Sem.run_pure]
      rfl
    | false =>
      rw [hk, cond_false] at h
      split at h
      case h_2 => cases h
      rename_i zs cs eb es hzs hb
      dsimp only at h
      cases hc : (Nat.ble (ob + (repV zs (k * zs.length)).length) cs.length && oneCells (repV zs (k * zs.length)) && Nat.blt b top && Nat.blt 0 zs.length) with
      | false => rw [hc] at h; cases h
      | true =>
        rw [hc, cond_true, Option.some.injEq] at h
        subst h
        simp only [Bool.and_eq_true] at hc
        have c1 := Nat.le_of_ble_eq_true hc.1.1.1
        have c3 : b < top := Nat.le_of_ble_eq_true hc.1.2
        have c4 : 0 < zs.length := Nat.le_of_ble_eq_true hc.2
        obtain ⟨z, hz, hzc, hzl⟩ := zeroV_ok (w := w) (σ := σ) hzs
        have hrl := repV_ok (σ := σ) hzl (k * zs.length) (fun _ => c4)
        have hst := run_storeRange (P := P) H hb hp (o := ob) (vs' := repV zs (k * zs.length)) (.inl c1) (hrl.one hc.1.1.2)
        have hza : z.cells = zs.toArray := by rw [← hzc]
        have hzz : (Builtin.zeroCells z.cells k).toList = repV zs (k * zs.length) := by
          unfold Builtin.zeroCells
          have := repV_eq (zs := zs) (k := k * zs.length) (fun _ => c4)
          rw [hza]
          have h2 := congrArg Array.toList this
          simpa using h2
        refine ⟨_, by rw [Tr.mem_set c3]; exact Ext.cells H hb hp (by omega) (.inl c1) hrl, ?_⟩
        have hk0 : k ≠ 0 := fun e => by rw [e] at hk; cases hk
        cases k with
        | zero => exact absurd rfl hk0
        | succ k =>
          simp only [Builtin.clear_, hg0, ha0, Sem.run_bind, run_underlying hu, Result.andThen_ok, Sem.run_pure, hz, hzz, hst]
          rfl
  · cases h

/-- Is it the same? Where an address is in it. -/
def eqV (P : Program) (t : Tr) (ty : TypeId) (x y : Value) : Option Bool :=
  match P.underlying ty, x, y with
  | some (.pointer _), .pointer none, .pointer (some _) => some false
  | some (.pointer _), .pointer (some _), .pointer none => some false
  | some (.pointer e), .pointer (some ⟨b, o, none⟩), .pointer (some ⟨b', o', none⟩) =>
    match sizeV P e with
    | some (k + 1) =>
      bif Nat.beq b b' then some (Nat.beq o o') else
      match t.mem b, t.mem b' with
      | some (.cells c _ _), some (.cells c' _ _) => bif Nat.ble o c.length && Nat.ble o' c'.length then some false else none
      | _, _ => none
    | _ => none
  | some (.slice _), .slice none _ _, .slice (some _) _ _ => some false
  | some (.slice _), .slice (some _) _ _, .slice none _ _ => some false
  | some (.map _ _), .map none, .map (some _) => some false
  | some (.map _ _), .map (some _), .map none => some false
  | some (.func _ _ _), .func _ _ _, .nilFunc => some false
  | some (.func _ _ _), .nilFunc, .func _ _ _ => some false
  | some (.interface _), .iface _ _, .nilIface => some false
  | some (.interface _), .nilIface, .iface _ _ => some false
  | _, _, _ => none

theorem eqV_ok {ty : TypeId} {x y x' y' : Value} {b : Bool} (H : Holds σ t.mem w) (hx : VR σ x x') (hy : VR σ y y') (h : eqV P t ty x y = some b) (d : Nat) : (Op.equalIn (d + 1) ty x' y').run P w = .ok b w := by
  unfold eqV at h
  split at h
  · rename_i hu; cases h; cases hx; cases hy
    simp [Op.equalIn, run_underlying hu]
  · rename_i hu; cases h; cases hx; cases hy
    simp [Op.equalIn, run_underlying hu]
  · rename_i e b1 o1 b2 o2 hu
    obtain ⟨p, hp, rfl⟩ := hx.addr
    obtain ⟨q, hq, rfl⟩ := hy.addr
    split at h
    case h_2 => cases h
    rename_i k hk
    have hrun : ∀ bb, (sameAddr ⟨p.blk, p.base + o1, none⟩ ⟨q.blk, q.base + o2, none⟩).run P w = .ok bb w → (Op.equalIn (d + 1) ty (.pointer (some ⟨p.blk, p.base + o1, none⟩)) (.pointer (some ⟨q.blk, q.base + o2, none⟩))).run P w = .ok bb w := by
      intro bb hbb
      simp only [Op.equalIn, Sem.run_bind, run_underlying hu, Result.andThen_ok, run_sizeV hk, Sem.run_ite]
      rw [if_pos (by omega)]
      exact hbb
    refine hrun b ?_
    cases hbb : Nat.beq b1 b2 with
    | true =>
      rw [hbb, cond_true, Option.some.injEq] at h
      have e1 := Nat.eq_of_beq_eq_true hbb
      subst e1
      rw [hp] at hq; cases hq
      subst h
      simp only [sameAddr, beq_self_eq_true, if_true, Sem.run_ite, Sem.run_pure]
      congr 1
      by_cases ho : o1 = o2
      · subst ho; simp
      · have : ¬ ((⟨p.blk, p.base + o1, none⟩ : Addr) = ⟨p.blk, p.base + o2, none⟩) := fun e => ho (by injection e with _ e2 _; omega)
        rw [beqF ho]
        simpa using this
    | false =>
      rw [hbb, cond_false] at h
      split at h
      case h_2 => cases h
      rename_i c1 e1 es1 c2 e2 es2 hb1 hb2
      cases hc : (Nat.ble o1 c1.length && Nat.ble o2 c2.length) with
      | false => rw [hc] at h; cases h
      | true =>
        rw [hc, cond_true, Option.some.injEq] at h
        subst h
        simp only [Bool.and_eq_true] at hc
        have l1 := Nat.le_of_ble_eq_true hc.1
        have l2 := Nat.le_of_ble_eq_true hc.2
        have hne : b1 ≠ b2 := fun e => by rw [beqT e] at hbb; cases hbb
        have hblk : p.blk ≠ q.blk := fun e => hne (H.inj _ _ _ _ _ _ hb1 hb2 hp hq e)
        obtain ⟨p', arr, fz, a1, a2, a3, a4, a5, a6, a7⟩ := H.cells hb1
        rw [hp] at a1; cases a1
        obtain ⟨q', arr', fz', b1', b2', b3, b4, b5, b6, b7⟩ := H.cells hb2
        rw [hq] at b1'; cases b1'
        have f1 := world_frozen a2 a7 (o := p.base + o1) (by omega)
        have f2 := world_frozen a2 a7 (o := arr.size) (Nat.le_refl _)
        have f3 := world_frozen b2' b7 (o := q.base + o2) (by omega)
        have f4 := world_frozen b2' b7 (o := arr'.size) (Nat.le_refl _)
        have s1 : w.shape? p.blk = some (e1, arr.size) := by simp [World.shape?, a2]
        have s2 : w.shape? q.blk = some (e2, arr'.size) := by simp [World.shape?, b2']
        have hbq : (p.blk == q.blk) = false := by simpa using hblk
        simp [sameAddr, hbq, f1, f2, f3, f4, noView, viewAt, s1, s2, mayBeOne, stringish]
  all_goals first
    | (rename_i hu; cases h; cases hx <;> cases hy <;> simp [Op.equalIn, run_underlying hu]; done)
    | cases h

end
end Ev
end Go.Proofs.YtgidmgkebkodoaaGreatDoor
