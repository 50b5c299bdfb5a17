/- A run on closed data, reckoned by the kernel, 8: every operation. -/
import Derived.Test.YtbanklocochiaaaEv7
set_option linter.unusedSimpArgs false
set_option linter.unusedVariables false
namespace Go.Proofs.Ytbanklocochiaaa
open Go.RowKit
namespace Ev

/-- What is told of a function that may be called. -/
structure Row where
  ntmps : Nat
  body : Code
  results : List ResultVar
abbrev Book := FuncId → Option Row
def Book.ok (P : Program) (F : Book) : Prop := ∀ f row, F f = some row → ∃ fn, P.funcs[f]? = some fn ∧ fn.body = some row.body ∧ fn.ntmps = row.ntmps ∧ fn.results.toList = row.results ∧ (fn.name == "runtime.NumGoroutine") = false

section
variable {P : Program} {F : Book} {o : Oper} {ρ : Operand → Value} {w : World} {σ : Sg} {t : Tr} {n : Nat} {r : Env}

theorem evCopy_ok {t1 t2 ty : TypeId} {d x d' x' : Value} {v : Value} {t' : Tr} (H : Holds σ t.mem w) (hd : VR σ d d') (hx : VR σ x x') (h : evCopy P t t1 d x = some (v, t')) :
    ∃ w' v', Ext t.mem n n σ σ t'.mem w w' ∧ VR σ v v' ∧ (Builtin.copy_ #[t1, t2] ty #[d', x']).run P w = .ok v' w' := by
  unfold evCopy at h
  split at h
  case h_2 => cases h
  rename_i e hu
  have hg0 : (#[t1, t2] : Array TypeId)[0]? = some t1 := rfl
  have ha0 : (#[d', x'] : Array Value)[0]? = some d' := rfl
  have ha1 : (#[d', x'] : Array Value)[1]? = some x' := rfl
  split at h
  · rename_i size k c hsz
    split at h
    case h_2 => cases h
    rename_i m xs hsrc
    obtain ⟨ys, hl, hylen, hlen, hfc⟩ := srcV_ok (P := P) H hx hsrc
    cases hk : Nat.beq k 0 with
    | false => rw [hk] at h; cases h
    | true =>
      rw [hk, cond_true, Option.some.injEq, Prod.mk.injEq] at h
      obtain ⟨rfl, rfl⟩ := h
      have hk := Nat.eq_of_beq_eq_true hk
      subst hk
      cases hd
      refine ⟨w, _, Ext.refl H, .int _ _, ?_⟩
      have hf0 : (Builtin.firstCells size 0 x').run P w = .ok #[] w := by
        unfold srcV at hsrc
        split at hsrc
        · cases hx; rfl
        · cases hx; simp [Builtin.firstCells, loadCells, loadCellsFrom]
        · cases hx; simp [Builtin.firstCells]
        · cases hsrc
      simp only [Builtin.copy_, hg0, ha0, ha1, Sem.run_bind, run_underlying hu, Result.andThen_ok, Sem.run_pure, hlen, run_sizeV hsz, show Nat.min m 0 = 0 from Nat.min_zero m, hf0]
      rfl
  · rename_i size b ob k c hsz
    split at h
    case h_2 => cases h
    rename_i m xs cs eb es hsrc hb
    obtain ⟨ys, hl, hylen, hlen, hfc⟩ := srcV_ok (P := P) H hx hsrc
    dsimp only at h
    cases hc : (Nat.ble (ob + Nat.min m k * size) cs.length && oneCells xs && Nat.blt b top) with
    | false => rw [hc] at h; cases h
    | true =>
      rw [hc, cond_true, Option.some.injEq, Prod.mk.injEq] at h
      obtain ⟨rfl, rfl⟩ := h
      simp only [Bool.and_eq_true] at hc
      have c1 := Nat.le_of_ble_eq_true hc.1.1
      have c3 : b < top := Nat.le_of_ble_eq_true hc.2
      cases hd with
      | sl b ob k c c' p hp hcc hll =>
      have hmk : Nat.min m k ≤ m := Nat.min_le_left m k
      have hms : Nat.min m k * size ≤ m * size := Nat.mul_le_mul_right _ hmk
      have hyl : (ys.take (Nat.min m k * size)).length = Nat.min m k * size := by rw [List.length_take, hylen]; omega
      have hxl : (xs.take (Nat.min m k * size)).length = Nat.min m k * size := by rw [List.length_take, hl.1, hylen]; omega
      have hlt := hl.take (Nat.min m k * size)
      have hone : ∀ v ∈ ys.take (Nat.min m k * size), v.oneCell' = true := fun v hv => hl.one hc.1.2 v (List.mem_of_mem_take hv)
      have hst := run_storeRange (P := P) H hb hp (o := ob) (vs' := ys.take (Nat.min m k * size)) (by rw [hyl]; exact c1) hone
      have hfm : (Builtin.firstCells size (Nat.min m k) x').run P w = .ok (ys.take (Nat.min m k * size)).toArray w := by
        unfold srcV at hsrc
        split at hsrc
        · cases hsrc
          cases hx
          have : ys = [] := List.eq_nil_of_length_eq_zero (by rw [hylen]; simp)
          subst this
          simp [Builtin.firstCells]
        · rename_i b2 o2 k2 c2
          split at hsrc
          · rename_i cs2 e2 es2 hb2
            cases hcq : Nat.ble (o2 + k2 * size) cs2.length with
            | false => rw [hcq] at hsrc; cases hsrc
            | true =>
              rw [hcq, cond_true] at hsrc
              cases hsrc
              cases hx with
              | sl b2 o2 n2 c2 c2' p2 hp2 _ _ =>
                have hcq := Nat.le_of_ble_eq_true hcq
                have hw := hfc w rfl
                simp only [Builtin.firstCells] at hw ⊢
                obtain ⟨zs, z1, z2, z3⟩ := rangeLR H hb2 hp2 (o := o2) (k := Nat.min m k * size) (by omega)
                have hz := run_loadCells_list (P := P) w ⟨p2.blk, p2.base + o2, none⟩ zs (fun j v hv => by rw [Addr.add_mid]; exact z3 j v hv)
                rw [z2] at hz
                obtain ⟨us, u1, u2, u3⟩ := rangeLR H hb2 hp2 hcq
                have hzu := run_loadCells_list (P := P) w ⟨p2.blk, p2.base + o2, none⟩ us (fun j v hv => by rw [Addr.add_mid]; exact u3 j v hv)
                rw [u2] at hzu
                have hus : us = ys := by
                  rw [hw] at hzu
                  simpa using hzu.symm
                subst hus
                rw [hz]
                congr 2
                apply List.ext_getElem?
                intro j
                rcases Nat.lt_or_ge j (Nat.min m k * size) with hj | hj
                · rw [List.getElem?_take, if_pos hj]
                  have a1 : j < zs.length := by omega
                  have a2 : j < us.length := by omega
                  have b1 := z3 j _ (List.getElem?_eq_getElem a1)
                  have b2 := u3 j _ (List.getElem?_eq_getElem a2)
                  rw [List.getElem?_eq_getElem a1, List.getElem?_eq_getElem a2, ← b1, ← b2]
                · rw [List.getElem?_eq_none (by omega), List.getElem?_eq_none (by omega)]
          · cases hsrc
        · rename_i s
          cases hcq : Nat.beq size 1 with
          | false => rw [hcq] at hsrc; cases hsrc
          | true =>
            have h1 := Nat.eq_of_beq_eq_true hcq
            subst h1
            cases hx
            have hw := hfc w rfl
            simp only [Builtin.firstCells, Sem.run_pure] at hw ⊢
            rw [hcq, cond_true] at hsrc
            simp only [Option.some.injEq, Prod.mk.injEq] at hsrc
            have he : s.extract 0 m = s := by rw [← hsrc.1, Array.length_toList]; exact ByteArray.extract_zero_size
            rw [he] at hw
            simp only [Result.ok.injEq, and_true] at hw
            congr 1
            apply Array.ext'
            simp only [Nat.mul_one, Array.toList_map, List.toList_toArray]
            have hys : ys = s.data.toList.map fun b => Value.int .u8 (b.toNat : Int) := by
              have := congrArg Array.toList hw
              simpa using this.symm
            rw [hys, ← List.map_take, ByteArray.data_extract, Array.toList_extract]
            simp
        · cases hsrc
      refine ⟨_, _, by rw [Tr.mem_set c3]; exact Ext.cells H hb hp (by rw [hxl]; exact c1) hlt, .int _ _, ?_⟩
      simp only [Builtin.copy_, hg0, ha0, ha1, Sem.run_bind, run_underlying hu, Result.andThen_ok, Sem.run_pure, hlen, run_sizeV hsz, hfm, hst]
      rfl
  · cases h

/-- clear(s). -/
def evClear (P : Program) (t : Tr) (t1 : TypeId) (x : Value) : Option Tr :=
  match P.underlying t1, x with
  | some (.slice e), .slice none _ _ => some t
  | some (.slice e), .slice (some ⟨b, o, none⟩) k _ =>
    bif Nat.beq k 0 then some t else
    match zeroV P e, t.mem b with
    | some zs, some (.cells cs eb es) =>
      let vs := repV zs (k * zs.length)
      bif Nat.ble (o + vs.length) cs.length && oneCells vs && Nat.blt b top && Nat.blt 0 zs.length then some (Tr.set 24 t b (some (.cells (splice cs o vs) eb es))) else none
    | _, _ => none
  | _, _ => none

theorem evClear_ok {t1 ty : TypeId} {x x' : Value} {t' : Tr} (H : Holds σ t.mem w) (hx : VR σ x x') (h : evClear P t t1 x = some t') :
    ∃ w', Ext t.mem n n σ σ t'.mem w w' ∧ (Builtin.clear_ #[t1] ty #[x']).run P w = .ok undef w' := by
  have hg0 : (#[t1] : Array TypeId)[0]? = some t1 := rfl
  have ha0 : (#[x'] : Array Value)[0]? = some x' := rfl
  unfold evClear at h
  split at h
  · rename_i e k c hu
    cases h
    cases hx
    refine ⟨w, Ext.refl H, ?_⟩
    simp only [Builtin.clear_, hg0, ha0, Sem.run_bind, run_underlying hu, Result.andThen_ok, Sem.run_pure]
    rfl
  · rename_i e b ob k c hu
    cases hx with
    | sl b ob k c c' p hp hcc hll =>
    cases hk : Nat.beq k 0 with
    | true =>
      rw [hk, cond_true, Option.some.injEq] at h
      subst h
      have hk := Nat.eq_of_beq_eq_true hk
      subst hk
      refine ⟨w, Ext.refl H, ?_⟩
      simp only [Builtin.clear_, hg0, ha0, Sem.run_bind, run_underlying hu, Result.andThen_ok, Sem.run_pure]
      rfl
    | false =>
      rw [hk, cond_false] at h
      split at h
      case h_2 => cases h
      rename_i zs cs eb es hzs hb
      dsimp only at h
      cases hc : (Nat.ble (ob + (repV zs (k * zs.length)).length) cs.length && oneCells (repV zs (k * zs.length)) && Nat.blt b top && Nat.blt 0 zs.length) with
      | false => rw [hc] at h; cases h
      | true =>
        rw [hc, cond_true, Option.some.injEq] at h
        subst h
        simp only [Bool.and_eq_true] at hc
        have c1 := Nat.le_of_ble_eq_true hc.1.1.1
        have c3 : b < top := Nat.le_of_ble_eq_true hc.1.2
        have c4 : 0 < zs.length := Nat.le_of_ble_eq_true hc.2
        obtain ⟨z, hz, hzc, hzl⟩ := zeroV_ok (w := w) (σ := σ) hzs
        have hrl := repV_ok (σ := σ) hzl (k * zs.length) (fun _ => c4)
        have hst := run_storeRange (P := P) H hb hp (o := ob) (vs' := repV zs (k * zs.length)) c1 (hrl.one hc.1.1.2)
        have hza : z.cells = zs.toArray := by rw [← hzc]
        have hzz : (Builtin.zeroCells z.cells k).toList = repV zs (k * zs.length) := by
          unfold Builtin.zeroCells
          have := repV_eq (zs := zs) (k := k * zs.length) (fun _ => c4)
          rw [hza]
          have h2 := congrArg Array.toList this
          simpa using h2
        refine ⟨_, by rw [Tr.mem_set c3]; exact Ext.cells H hb hp c1 hrl, ?_⟩
        have hk0 : k ≠ 0 := fun e => by rw [e] at hk; cases hk
        cases k with
        | zero => exact absurd rfl hk0
        | succ k =>
          simp only [Builtin.clear_, hg0, ha0, Sem.run_bind, run_underlying hu, Result.andThen_ok, Sem.run_pure, hz, hzz, hst]
          rfl
  · cases h

/-- Is it the same? Where an address is in it. -/
def eqV (P : Program) (t : Tr) (ty : TypeId) (x y : Value) : Option Bool :=
  match P.underlying ty, x, y with
  | some (.pointer _), .pointer none, .pointer (some _) => some false
  | some (.pointer _), .pointer (some _), .pointer none => some false
  | some (.pointer e), .pointer (some ⟨b, o, none⟩), .pointer (some ⟨b', o', none⟩) =>
    match sizeV P e with
    | some (k + 1) =>
      bif Nat.beq b b' then some (Nat.beq o o') else
      match t.mem b, t.mem b' with
      | some (.cells c _ _), some (.cells c' _ _) => bif Nat.ble o c.length && Nat.ble o' c'.length then some false else none
      | _, _ => none
    | _ => none
  | some (.slice _), .slice none _ _, .slice (some _) _ _ => some false
  | some (.slice _), .slice (some _) _ _, .slice none _ _ => some false
  | some (.map _ _), .map none, .map (some _) => some false
  | some (.map _ _), .map (some _), .map none => some false
  | some (.func _ _ _), .func _ _ _, .nilFunc => some false
  | some (.func _ _ _), .nilFunc, .func _ _ _ => some false
  | some (.interface _), .iface _ _, .nilIface => some false
  | some (.interface _), .nilIface, .iface _ _ => some false
  | _, _, _ => none

theorem eqV_ok {ty : TypeId} {x y x' y' : Value} {b : Bool} (H : Holds σ t.mem w) (hx : VR σ x x') (hy : VR σ y y') (h : eqV P t ty x y = some b) (d : Nat) : (Op.equalIn (d + 1) ty x' y').run P w = .ok b w := by
  unfold eqV at h
  split at h
  · rename_i hu; cases h; cases hx; cases hy
    simp [Op.equalIn, run_underlying hu]
  · rename_i hu; cases h; cases hx; cases hy
    simp [Op.equalIn, run_underlying hu]
  · rename_i e b1 o1 b2 o2 hu
    obtain ⟨p, hp, rfl⟩ := hx.addr
    obtain ⟨q, hq, rfl⟩ := hy.addr
    split at h
    case h_2 => cases h
    rename_i k hk
    have hrun : ∀ bb, (sameAddr ⟨p.blk, p.base + o1, none⟩ ⟨q.blk, q.base + o2, none⟩).run P w = .ok bb w → (Op.equalIn (d + 1) ty (.pointer (some ⟨p.blk, p.base + o1, none⟩)) (.pointer (some ⟨q.blk, q.base + o2, none⟩))).run P w = .ok bb w := by
      intro bb hbb
      simp only [Op.equalIn, Sem.run_bind, run_underlying hu, Result.andThen_ok, run_sizeV hk, Sem.run_ite]
      rw [if_pos (by omega)]
      exact hbb
    refine hrun b ?_
    cases hbb : Nat.beq b1 b2 with
    | true =>
      rw [hbb, cond_true, Option.some.injEq] at h
      have e1 := Nat.eq_of_beq_eq_true hbb
      subst e1
      rw [hp] at hq; cases hq
      subst h
      simp only [sameAddr, beq_self_eq_true, if_true, Sem.run_ite, Sem.run_pure]
      congr 1
      by_cases ho : o1 = o2
      · subst ho; simp
      · have : ¬ ((⟨p.blk, p.base + o1, none⟩ : Addr) = ⟨p.blk, p.base + o2, none⟩) := fun e => ho (by injection e with _ e2 _; omega)
        rw [beqF ho]
        simpa using this
    | false =>
      rw [hbb, cond_false] at h
      split at h
      case h_2 => cases h
      rename_i c1 e1 es1 c2 e2 es2 hb1 hb2
      cases hc : (Nat.ble o1 c1.length && Nat.ble o2 c2.length) with
      | false => rw [hc] at h; cases h
      | true =>
        rw [hc, cond_true, Option.some.injEq] at h
        subst h
        simp only [Bool.and_eq_true] at hc
        have l1 := Nat.le_of_ble_eq_true hc.1
        have l2 := Nat.le_of_ble_eq_true hc.2
        have hne : b1 ≠ b2 := fun e => by rw [beqT e] at hbb; cases hbb
        have hblk : p.blk ≠ q.blk := fun e => hne (H.inj _ _ _ _ _ _ hb1 hb2 hp hq e)
        obtain ⟨p', arr, fz, a1, a2, a3, a4, a5, a6, a7⟩ := H.cells hb1
        rw [hp] at a1; cases a1
        obtain ⟨q', arr', fz', b1', b2', b3, b4, b5, b6, b7⟩ := H.cells hb2
        rw [hq] at b1'; cases b1'
        have f1 := world_frozen a2 a7 (o := p.base + o1) (by omega)
        have f2 := world_frozen a2 a7 (o := arr.size) (Nat.le_refl _)
        have f3 := world_frozen b2' b7 (o := q.base + o2) (by omega)
        have f4 := world_frozen b2' b7 (o := arr'.size) (Nat.le_refl _)
        have s1 : w.shape? p.blk = some (e1, arr.size) := by simp [World.shape?, a2]
        have s2 : w.shape? q.blk = some (e2, arr'.size) := by simp [World.shape?, b2']
        have hbq : (p.blk == q.blk) = false := by simpa using hblk
        simp [sameAddr, hbq, f1, f2, f3, f4, noView, viewAt, s1, s2, mayBeOne, stringish]
  all_goals first
    | (rename_i hu; cases h; cases hx <;> cases hy <;> simp [Op.equalIn, run_underlying hu]; done)
    | cases h

end
end Ev
end Go.Proofs.Ytbanklocochiaaa
