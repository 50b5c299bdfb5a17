/- A run on closed data, reckoned by the kernel, 7: append, len, copy, clear, make. -/
import Derived.Test.YtgidmgkebkodoaaGreatDoorEv6
set_option linter.unusedSimpArgs false
set_option linter.unusedVariables false
set_option linter.unusedSectionVars false
namespace Go.Proofs.YtgidmgkebkodoaaGreatDoor
open Go.RowKit
namespace Ev
variable [Vars]

section
variable {P : Program} {o : Oper} {ρ : Operand → Value} {w : World} {σ : Sg} {t : Tr} {n : Nat} {r : Env}

/-- The zero value has the type's size. -/
def zlen (i : TypeInfo) : Bool := match i.zero with | some z => Nat.beq z.cells.toList.length i.size | none => false
theorem zlen_ok {i : TypeInfo} (h : zlen i = true) : ∃ z, i.zero = some z ∧ z.cells.size = i.size := by
  unfold zlen at h
  split at h
  · rename_i z hz
    exact ⟨z, hz, by have := Nat.eq_of_beq_eq_true h; simpa using this⟩
  · cases h

def evAppend (P : Program) (t : Tr) (n : Nat) (t1 t2 : TypeId) (s x : Value) : Option (Value × Tr × Nat) :=
  match P.underlying t1 with
  | some (.slice e) => match P.info? e with
    | some i => match srcV t i.size x with
      | some (m, xs) =>
        bif notInt P t2 then
          match s with
          | .slice none 0 0 =>
            bif Nat.beq m 0 then some (s, t, n)
            else bif Nat.ble m 1048576 && Nat.blt 0 i.bytes && Nat.ble (m * i.bytes) 140737488355328 && Nat.blt n top && zlen i && Nat.blt 0 i.size then
              some (.slice (some ⟨n, 0, none⟩) m m, Tr.set 24 t n (some (.cells xs e i.size)), n + 1)
            else none
          | .slice (some ⟨b, o, none⟩) k c => match t.mem b with
            | some (.cells cs eb es) =>
              bif Nat.ble (k + m) c then
                bif (Nat.ble (o + k * i.size + xs.length) cs.length || (Nat.beq es i.size && Nat.blt 0 es && Nat.ble (o + k * i.size) cs.length)) && oneCells xs && Nat.blt b top then
                  some (.slice (some ⟨b, o, none⟩) (k + m) c, Tr.set 24 t b (some (.cells (splice cs (o + k * i.size) xs) eb es)), n)
                else none
              else bif Nat.ble (k + m) 1048576 && Nat.blt 0 i.bytes && Nat.ble ((k + m) * i.bytes) 140737488355328 && Nat.blt n top && zlen i && Nat.blt 0 i.size && Nat.ble (o + k * i.size) cs.length then
                bif Nat.beq es 0 then
                  some (.slice (some ⟨n, 0, none⟩) (k + m) (k + m), Tr.set 24 t n (some (.cells ((cs.drop o).take (k * i.size) ++ xs) e i.size)), n + 1)
                else bif Nat.beq es i.size && Nat.beq (o + k * i.size) cs.length && oneCells xs && Nat.beq eb e && Nat.blt b top then
                  some (.slice (some ⟨n, 0, none⟩) (k + m) (k + m), Tr.set 24 (Tr.set 24 t b none) n (some (.cells (cs.drop o ++ xs) e i.size)), n + 1)
                else none
              else none
            | _ => none
          | _ => none
        else none
      | none => none
    | none => none
  | _ => none

theorem zeros_len (z : Value) (k : Nat) : (Builtin.zeroCells z.cells k).size = k * z.cells.size := size_zeroCells _ _

/-- A row that append made. -/
theorem Ext.grown {h : Mem} (H : Holds σ h w) (hf : σ n = none) {xs ys : List Value} (hl : LR σ xs ys) (e : TypeId) (size cap m : Nat) (hx : xs.length = m * size) (hm : m ≤ cap) (tail : Array Value) (ht : tail.size = (cap - m) * size) :
    Ext h n (n + 1) σ (σ.put n ⟨w.heap.size, 0, cap * size, size⟩) (fun j => if j = n then some (.cells xs e size) else h j) w (w.drew.alloc (.cells (ys.toArray ++ tail) e)) := by
  have hcm : cap * size = m * size + (cap - m) * size := by rw [← Nat.add_mul]; congr 1; omega
  have a := (Ext.refl (n := n) H).drewR
  have b := Ext.alloc (n := n) (w := w.drew) (x := .cells (ys.toArray ++ tail) e) (o := .cells xs e size) (p := ⟨w.heap.size, 0, cap * size, size⟩) H.drew hf rfl
    (.cells xs e size _ _ _ (by simp [← hl.1, hx, ht]; omega) (by dsimp only; omega) rfl (fun i x hxi => by
      obtain ⟨y, hy, hr⟩ := hl.get? hxi
      refine ⟨y, ?_, hr.mono (Sg.put_le hf)⟩
      have hi := (List.getElem?_eq_some_iff.1 hy).1
      simp only [Nat.zero_add]
      rw [Array.getElem?_append_left (by simpa using hi)]
      simpa using hy) (fun o _ h => by simp at h))
  exact a.trans b

set_option maxHeartbeats 1000000 in
theorem evAppend_ok {t1 t2 ty : TypeId} {s x s' x' : Value} {v : Value} {t' : Tr} {n' : Nat} (H : Holds σ t.mem w) (hs : VR σ s s') (hx : VR σ x x') (h : evAppend P t n t1 t2 s x = some (v, t', n')) (hf : Fresh σ n n') :
    ∃ σ' w' v', Ext t.mem n n' σ σ' t'.mem w w' ∧ VR σ' v v' ∧ (Builtin.append_ #[t1, t2] ty #[s', x']).run P w = .ok v' w' := by
  unfold evAppend at h
  split at h
  case h_2 => cases h
  rename_i e hu
  split at h
  case h_2 => cases h
  rename_i i hi
  split at h
  case h_2 => cases h
  rename_i m xs hsrc
  obtain ⟨ys, hl, hylen, hlen, hfc⟩ := srcV_ok (P := P) H hx hsrc
  have hxlen : xs.length = m * i.size := hl.1.trans hylen
  cases hni : notInt P t2 with
  | false => rw [hni] at h; cases h
  | true =>
  rw [hni, cond_true] at h
  split at h
  · -- nil
    cases hm0 : Nat.beq m 0 with
    | true =>
      rw [hm0, cond_true, Option.some.injEq, Prod.mk.injEq, Prod.mk.injEq] at h
      obtain ⟨rfl, rfl, rfl⟩ := h
      have hm := Nat.eq_of_beq_eq_true hm0
      subst hm
      cases hs
      refine ⟨σ, w, _, Ext.refl H, .sl0 0 0, ?_⟩
      obtain ⟨d, hd, hdi⟩ := notInt_ok (P := P) hni w
      have hsr : (sizeOf e).run P w = .ok i.size w := by simp [sizeOf, typeInfo, hi]
      have hg0 : (#[t1, t2] : Array TypeId)[0]? = some t1 := rfl
      have hg1 : (#[t1, t2] : Array TypeId)[1]? = some t2 := rfl
      have ha0 : (#[Value.slice none 0 0, x'] : Array Value)[0]? = some (.slice none 0 0) := rfl
      have ha1 : (#[Value.slice none 0 0, x'] : Array Value)[1]? = some x' := rfl
      cases d <;> first
        | (simp at hdi; done)
        | (simp only [Builtin.append_, hg0, hg1, ha0, ha1, Sem.run_bind, run_underlying hu, Result.andThen_ok, hsr, hd, Sem.run_pure, if_false, Bool.false_eq_true, hlen, Sem.run_ite, Nat.add_zero, Nat.le_refl, Bool.not_false, if_true, hfc w rfl])
    | false =>
      rw [hm0, cond_false] at h
      cases hc : (Nat.ble m 1048576 && Nat.blt 0 i.bytes && Nat.ble (m * i.bytes) 140737488355328 && Nat.blt n top && zlen i && Nat.blt 0 i.size) with
      | false => rw [hc] at h; cases h
      | true =>
        rw [hc, cond_true, Option.some.injEq, Prod.mk.injEq, Prod.mk.injEq] at h
        obtain ⟨rfl, rfl, rfl⟩ := h
        simp only [Bool.and_eq_true] at hc
        obtain ⟨⟨⟨⟨⟨c1, c2⟩, c3⟩, c4⟩, c5⟩, c6⟩ := hc
        have c1 := Nat.le_of_ble_eq_true c1
        have c2 : 0 < i.bytes := Nat.le_of_ble_eq_true c2
        have c3 := Nat.le_of_ble_eq_true c3
        have c4 : n < top := Nat.le_of_ble_eq_true c4
        have c6 : 0 < i.size := Nat.le_of_ble_eq_true c6
        obtain ⟨z, hz, hzs⟩ := zlen_ok c5
        have hmpos : 0 < m := Nat.pos_of_ne_zero fun h0 => by rw [h0] at hm0; cases hm0
        cases hs
        have hrun := run_append_out (P := P) (w := w) (t1 := t1) (t2 := t2) (ty := ty) (A := none) (k := 0) (c := 0) (os := []) (zs := z.cells.toList) hu hni hi rfl rfl hz rfl hlen hfc (fun _ _ => rfl) (by omega) (by omega) c2 (by simpa using c3)
        have hge := grownCap_ge w (0 + m) 0 e
        rw [Nat.zero_add] at hrun hge
        have e1 := Ext.grown (w := w) H (fresh_at hf (Nat.lt_succ_self n)) hl e i.size (grownCap w m 0 e) m hxlen hge (Builtin.zeroCells z.cells (grownCap w m 0 e - m)) (by rw [zeros_len, hzs])
        rw [show (([] : List Value).toArray ++ ys.toArray) = ys.toArray by simp] at hrun
        exact ⟨_, _, _, by rw [Tr.mem_set c4]; exact e1, .sl n 0 m m _ _ Sg.put_same hge (.inr ⟨c6, by simp⟩), hrun⟩
  · rename_i b ob k c
    split at h
    case h_2 => cases h
    rename_i cs eb es hb
    cases hs with
    | sl b ob k c c' p hp hcc hll =>
    obtain ⟨q, arr, fz, q1, q2, q3, q4, q5, q6, q7⟩ := H.cells hb
    rw [hp] at q1; cases q1
    have hsr : sizeV P e = some i.size := by simp [sizeV, hi]
    cases hfit : Nat.ble (k + m) c with
    | true =>
      rw [hfit, cond_true] at h
      have hfit := Nat.le_of_ble_eq_true hfit
      cases hc : ((Nat.ble (ob + k * i.size + xs.length) cs.length || (Nat.beq es i.size && Nat.blt 0 es && Nat.ble (ob + k * i.size) cs.length)) && oneCells xs && Nat.blt b top) with
      | false => rw [hc] at h; cases h
      | true =>
        rw [hc, cond_true, Option.some.injEq, Prod.mk.injEq, Prod.mk.injEq] at h
        obtain ⟨rfl, rfl, rfl⟩ := h
        simp only [Bool.and_eq_true] at hc
        have c3 : b < top := Nat.le_of_ble_eq_true hc.2
        have c1 : ob + k * i.size ≤ cs.length ∧ (ob + k * i.size + xs.length ≤ cs.length ∨ ob + k * i.size + xs.length ≤ p.avail) := by
          have h1 := hc.1.1
          simp only [Bool.or_eq_true, Bool.and_eq_true] at h1
          rcases h1 with h1 | ⟨⟨h1, h2⟩, h3⟩
          · have := Nat.le_of_ble_eq_true h1
            exact ⟨by omega, .inl this⟩
          · refine ⟨Nat.le_of_ble_eq_true h3, .inr ?_⟩
            have h1 := Nat.eq_of_beq_eq_true h1
            have h2 : 0 < es := Nat.le_of_ble_eq_true h2
            rcases hll with ⟨h4, _⟩ | ⟨_, h4⟩
            · omega
            · rw [q5, h1] at h4
              have h5 : (k + m) * i.size ≤ c' * i.size := Nat.mul_le_mul_right _ (by omega)
              rw [Nat.add_mul] at h5
              omega
        have hst := run_storeRange (P := P) H hb hp (o := ob + k * i.size) (vs' := ys) (by rw [← hl.1]; exact c1.2) (hl.one hc.1.2)
        refine ⟨σ, _, _, by rw [Tr.mem_set c3]; exact Ext.cells H hb hp c1.1 c1.2 hl, .sl b ob (k + m) c c' p hp hcc hll, ?_⟩
        exact run_append_in hu hni hsr hlen (hfc w rfl) (by omega) (by rw [Addr.add_mid, Nat.add_assoc]; exact hst)
    | false =>
      rw [hfit, cond_false] at h
      have hfit : c < k + m := by
        rcases Nat.lt_or_ge c (k + m) with h1 | h1
        · exact h1
        · rw [Nat.ble_eq_true_of_le h1] at hfit; cases hfit
      cases hc : (Nat.ble (k + m) 1048576 && Nat.blt 0 i.bytes && Nat.ble ((k + m) * i.bytes) 140737488355328 && Nat.blt n top && zlen i && Nat.blt 0 i.size && Nat.ble (ob + k * i.size) cs.length) with
      | false => rw [hc] at h; cases h
      | true =>
        rw [hc, cond_true] at h
        simp only [Bool.and_eq_true] at hc
        obtain ⟨⟨⟨⟨⟨⟨c1, c2⟩, c3⟩, c4⟩, c5⟩, c6⟩, c7⟩ := hc
        have c1 := Nat.le_of_ble_eq_true c1
        have c2 : 0 < i.bytes := Nat.le_of_ble_eq_true c2
        have c3 := Nat.le_of_ble_eq_true c3
        have c4 : n < top := Nat.le_of_ble_eq_true c4
        have c6 : 0 < i.size := Nat.le_of_ble_eq_true c6
        have c7 := Nat.le_of_ble_eq_true c7
        obtain ⟨z, hz, hzs⟩ := zlen_ok c5
        obtain ⟨os, ho1, ho2, ho3⟩ := rangeLR H hb hp c7
        have hold : ∀ w2 : World, w2.heap = w.heap → (Builtin.firstCells i.size k (.slice (some ⟨p.blk, p.base + ob, none⟩) k c')).run P w2 = .ok os.toArray w2 := by
          intro w2 hw
          have := run_loadCells_list (P := P) w2 ⟨p.blk, p.base + ob, none⟩ os (fun j v hv => by
            rw [Addr.add_mid]
            have := ho3 j v hv
            simpa [World.cell?, hw] using this)
          rw [ho2] at this
          exact this
        have hge := grownCap_ge w (k + m) c' e
        have hnew : ∀ hcap : c' < k + m, ∃ σ' w' v', Ext t.mem n (n + 1) σ σ' (fun j => if j = n then some (.cells (((cs.drop ob).take (k * i.size)) ++ xs) e i.size) else t.mem j) w w' ∧ VR σ' (.slice (some ⟨n, 0, none⟩) (k + m) (k + m)) v' ∧
            (Builtin.append_ #[t1, t2] ty #[.slice (some ⟨p.blk, p.base + ob, none⟩) k c', x']).run P w = .ok v' w' ∧ σ' n ≠ none := by
          intro hcap
          have hrun := run_append_out (P := P) (w := w) (t1 := t1) (t2 := t2) (ty := ty) (A := some ⟨p.blk, p.base + ob, none⟩) (k := k) (c := c') (os := os) (zs := z.cells.toList) hu hni hi rfl rfl hz rfl hlen hfc hold hcap (by omega) c2 c3
          have e1 := Ext.grown (w := w) H (hf n (Nat.le_refl _) (by
              cases hes : Nat.beq es 0 with
              | true => rw [hes, cond_true, Option.some.injEq, Prod.mk.injEq, Prod.mk.injEq] at h; omega
              | false =>
                rw [hes, cond_false] at h
                cases hq : (Nat.beq es i.size && Nat.beq (ob + k * i.size) cs.length && oneCells xs && Nat.beq eb e && Nat.blt b top) with
                | false => rw [hq] at h; cases h
                | true => rw [hq, cond_true, Option.some.injEq, Prod.mk.injEq, Prod.mk.injEq] at h; omega)) (ho1.append hl) e i.size (grownCap w (k + m) c' e) (k + m) (by rw [List.length_append, ho1.1, ho2, hxlen, Nat.add_mul]) hge
            (Builtin.zeroCells z.cells (grownCap w (k + m) c' e - (k + m))) (by rw [zeros_len, hzs])
          rw [show os.toArray ++ ys.toArray = (os ++ ys).toArray by simp] at hrun
          exact ⟨_, _, _, e1, .sl n 0 _ _ _ _ Sg.put_same hge (.inr ⟨c6, by simp⟩), hrun, by rw [Sg.put_same]; simp⟩
        cases hes : Nat.beq es 0 with
        | true =>
          rw [hes, cond_true, Option.some.injEq, Prod.mk.injEq, Prod.mk.injEq] at h
          obtain ⟨rfl, rfl, rfl⟩ := h
          have hes := Nat.eq_of_beq_eq_true hes
          have hcc' : c' = c := by
            rcases hll with h | h
            · exact h.2
            · omega
          obtain ⟨σ', w', v', a1, a2, a3, _⟩ := hnew (by omega)
          exact ⟨σ', w', v', by rw [Tr.mem_set c4]; exact a1, a2, a3⟩
        | false =>
          rw [hes, cond_false] at h
          cases hq : (Nat.beq es i.size && Nat.beq (ob + k * i.size) cs.length && oneCells xs && Nat.beq eb e && Nat.blt b top) with
          | false => rw [hq] at h; cases h
          | true =>
            rw [hq, cond_true, Option.some.injEq, Prod.mk.injEq, Prod.mk.injEq] at h
            obtain ⟨rfl, rfl, rfl⟩ := h
            simp only [Bool.and_eq_true] at hq
            obtain ⟨⟨⟨⟨d1, d2⟩, d3⟩, d4⟩, d5⟩ := hq
            have d1 := Nat.eq_of_beq_eq_true d1
            have d2 := Nat.eq_of_beq_eq_true d2
            have d4 := Nat.eq_of_beq_eq_true d4
            have d5 : b < top := Nat.le_of_ble_eq_true d5
            subst d4
            have hdt : (cs.drop ob).take (k * i.size) = cs.drop ob := List.take_of_length_le (by simp; omega)
            have hbn : b ≠ n := fun he => by
              have := hf n (Nat.le_refl _) (Nat.lt_succ_self n)
              rw [← he, hp] at this; cases this
            have hmem : (Tr.set 24 (Tr.set 24 t b none) n (some (.cells (cs.drop ob ++ xs) eb i.size))).mem = fun j => if j = n then some (.cells (cs.drop ob ++ xs) eb i.size) else if j = b then none else t.mem j := by
              rw [Tr.mem_set c4, Tr.mem_set d5]
            rcases Nat.lt_or_ge c' (k + m) with hcap | hcap
            · obtain ⟨σ', w', v', a1, a2, a3, _⟩ := hnew hcap
              refine ⟨σ', w', v', ?_, a2, a3⟩
              rw [hmem]
              rw [hdt] at a1
              refine a1.less fun j oj hj => ?_
              by_cases hjn : j = n
              · rw [if_pos hjn] at hj ⊢; exact hj
              · rw [if_neg hjn] at hj ⊢
                by_cases hjb : j = b
                · rw [if_pos hjb] at hj; cases hj
                · rw [if_neg hjb] at hj; exact hj
            · have hlies : 0 < p.es ∧ ob + c' * p.es ≤ p.avail := by
                rcases hll with h | h
                · omega
                · exact h
              rw [q5, d1] at hlies
              have hroom : cs.length + xs.length ≤ p.avail := by
                have := Nat.mul_le_mul_right i.size hcap
                rw [Nat.add_mul] at this
                omega
              have e1 := Ext.renew (n := n) H (hf n (Nat.le_refl _) (Nat.lt_succ_self n)) hb hp (ob := ob) hl (by omega) hroom
              have hst : (storeCells ⟨p.blk, p.base + cs.length, none⟩ ys).run P w = .ok () (w.setCells p.blk (p.base + cs.length) ys) := by
                have := run_storeCells_cells (P := P) p.blk (p.base + cs.length) ys 0 w (fun j hj => by
                  rw [world_cell q2]; simp; have := hl.1; omega) (fun j hj => world_frozen q2 q7 (by have := hl.1; omega)) (hl.one d3)
                simpa using this
              rw [d1] at e1
              refine ⟨_, _, _, by rw [hmem]; exact e1, ?_, run_append_in hu hni hsr hlen (hfc w rfl) hcap (by rw [Addr.add_mid, Nat.add_assoc, d2]; exact hst)⟩
              have := VR.sl (σ := σ.put n ⟨p.blk, p.base + ob, p.avail - ob, i.size⟩) n 0 (k + m) (k + m) c' _ Sg.put_same hcap (.inr ⟨c6, by simp only [Nat.zero_add]; omega⟩)
              simpa using this
  · cases h

/-! copy, clear -/
/-- How many there are, and so many of them. -/
def lenV : Value → Option Nat
  | .slice _ m _ => some m
  | .string s => some s.data.toList.length
  | _ => none
def cutV (l : Nat) : Value → Value
  | .slice a _ c => .slice a l c
  | v => v

def evCopy (P : Program) (t : Tr) (t1 : TypeId) (d x : Value) : Option (Value × Tr) :=
  match P.underlying t1 with
  | some (.slice e) => match sizeV P e, d, lenV x with
    | some size, .slice none k _, some m => bif Nat.beq k 0 then
        match srcV t size (cutV 0 x) with
        | some (0, []) => some (.int .i64 0, t)
        | _ => none
      else none
    | some size, .slice (some ⟨b, o, none⟩) k kc, some m => match srcV t size (cutV (Nat.min m k) x), t.mem b with
      | some (l, xs), some (.cells cs eb es) =>
        bif Nat.beq l (Nat.min m k) && (Nat.ble (o + l * size) cs.length || (Nat.beq es size && Nat.blt 0 es && Nat.ble o cs.length && Nat.ble k kc)) && oneCells xs && Nat.blt b top then
          some (.int .i64 (l : Int), Tr.set 24 t b (some (.cells (splice cs o xs) eb es)))
        else none
      | _, _ => none
    | _, _, _ => none
  | _ => none

/-- append(s, make([]T, m)...), at an exact slice that has no room. -/
def evAppendZ (P : Program) (t : Tr) (n : Nat) (t1 t2 : TypeId) (s x : Value) : Option (Value × Tr × Nat) :=
  match P.underlying t1, P.underlying t2, x, s with
  | some (.slice e), some (.int _), .int .i64 m, .slice (some ⟨b, o, none⟩) k c => match P.info? e, zeroV P e, t.mem b with
    | some i, some zs, some (.cells cs _ 0) =>
      bif decide (0 ≤ m) && decide (m ≤ 1048576) && Nat.ble (k + m.toNat) 1048576 && Nat.blt c (k + m.toNat) && Nat.blt 0 i.bytes && Nat.ble (i.bytes) 1048576 && Nat.blt n top && zlen i && Nat.blt 0 i.size && Nat.ble (o + k * i.size) cs.length then
        some (.slice (some ⟨n, 0, none⟩) (k + m.toNat) (k + m.toNat), Tr.set 24 t n (some (.cells ((cs.drop o).take (k * i.size) ++ repV zs (m.toNat * i.size)) e i.size)), n + 1)
      else none
    | _, _, _ => none
  | _, _, _, _ => none

set_option maxHeartbeats 1000000 in
theorem evAppendZ_ok {t1 t2 ty : TypeId} {s x s' x' : Value} {v : Value} {t' : Tr} {n' : Nat} (H : Holds σ t.mem w) (hs : VR σ s s') (hx : VR σ x x') (h : evAppendZ P t n t1 t2 s x = some (v, t', n')) (hf : Fresh σ n n') :
    ∃ σ' w' v', Ext t.mem n n' σ σ' t'.mem w w' ∧ VR σ' v v' ∧ (Builtin.append_ #[t1, t2] ty #[s', x']).run P w = .ok v' w' := by
  unfold evAppendZ at h
  split at h
  case h_2 => cases h
  rename_i e ik m b o k c hu hu2
  split at h
  case h_2 => cases h
  rename_i i zs cs eb hi hzs hb
  cases hc : (decide (0 ≤ m) && decide (m ≤ 1048576) && Nat.ble (k + m.toNat) 1048576 && Nat.blt c (k + m.toNat) && Nat.blt 0 i.bytes && Nat.ble (i.bytes) 1048576 && Nat.blt n top && zlen i && Nat.blt 0 i.size && Nat.ble (o + k * i.size) cs.length) with
  | false => rw [hc] at h; cases h
  | true =>
    rw [hc, cond_true, Option.some.injEq, Prod.mk.injEq, Prod.mk.injEq] at h
    obtain ⟨rfl, rfl, rfl⟩ := h
    simp only [Bool.and_eq_true, decide_eq_true_eq] at hc
    obtain ⟨⟨⟨⟨⟨⟨⟨⟨⟨d1, d2⟩, d3⟩, d4⟩, d5⟩, d6⟩, d7⟩, d8⟩, d9⟩, d10⟩ := hc
    have d3 := Nat.le_of_ble_eq_true d3
    have d4 : c < k + m.toNat := Nat.le_of_ble_eq_true d4
    have d5 : 0 < i.bytes := Nat.le_of_ble_eq_true d5
    have d6 := Nat.le_of_ble_eq_true d6
    have d7 : n < top := Nat.le_of_ble_eq_true d7
    have d9 : 0 < i.size := Nat.le_of_ble_eq_true d9
    have d10 := Nat.le_of_ble_eq_true d10
    obtain ⟨z, hz, hzz⟩ := zlen_ok d8
    cases hx
    cases hs with
    | sl b o k c c' p hp hcc hll =>
    obtain ⟨q, arr, fz, q1, q2, q3, q4, q5, q6, q7⟩ := H.cells hb
    rw [hp] at q1; cases q1
    have hce : c' = c := by
      rcases hll with h | h
      · exact h.2
      · omega
    subst hce
    obtain ⟨os, ho1, ho2, ho3⟩ := rangeLR H hb hp d10
    have hold : ∀ w2 : World, w2.heap = w.heap → (Builtin.firstCells i.size k (.slice (some ⟨p.blk, p.base + o, none⟩) k c')).run P w2 = .ok os.toArray w2 := by
      intro w2 hw
      have := run_loadCells_list (P := P) w2 ⟨p.blk, p.base + o, none⟩ os (fun j v hv => by
        rw [Addr.add_mid]
        have := ho3 j v hv
        simpa [World.cell?, hw] using this)
      rw [ho2] at this
      exact this
    have hzv : z.cells.toList = zs := by
      unfold zeroV at hzs
      rw [hi] at hzs
      simp only [hz] at hzs
      cases hp4 : plain 4 z with
      | false => rw [hp4] at hzs; cases hzs
      | true => rw [hp4, cond_true, Option.some.injEq] at hzs; exact hzs
    have hzl : LR σ zs zs := by
      obtain ⟨_, _, _, h⟩ := zeroV_ok (w := w) (σ := σ) hzs
      exact h
    have hzlen : zs.length = i.size := by rw [← hzv]; simpa using hzz
    have hza : z.cells = zs.toArray := by rw [← hzv]
    have hrl := repV_ok (σ := σ) hzl (m.toNat * i.size) (fun _ => by omega)
    have hzc : Builtin.zeroCells z.cells m.toNat = (repV zs (m.toNat * i.size)).toArray := by
      unfold Builtin.zeroCells
      have := repV_eq (zs := zs) (k := m.toNat * i.size) (fun _ => by omega)
      rw [hza]
      simp only [List.size_toArray, hzlen] at this ⊢
      exact this
    have hge := grownCap_ge w (k + m.toNat) c' e
    have e1 := Ext.grown (w := w) H (hf n (Nat.le_refl _) (Nat.lt_succ_self n)) (ho1.append hrl) e i.size (grownCap w (k + m.toNat) c' e) (k + m.toNat) (by rw [List.length_append, ho1.1, ho2, repV_len, Nat.add_mul]) hge
      (Builtin.zeroCells z.cells (grownCap w (k + m.toNat) c' e - (k + m.toNat))) (by rw [zeros_len, hzz])
    refine ⟨_, _, _, by rw [Tr.mem_set d7]; exact e1, .sl n 0 _ _ _ _ Sg.put_same hge (.inr ⟨d9, by simp⟩), ?_⟩
    have hg0 : (#[t1, t2] : Array TypeId)[0]? = some t1 := rfl
    have hg1 : (#[t1, t2] : Array TypeId)[1]? = some t2 := rfl
    have ha0 : (#[Value.slice (some ⟨p.blk, p.base + o, none⟩) k c', .int .i64 m] : Array Value)[0]? = some (.slice (some ⟨p.blk, p.base + o, none⟩) k c') := rfl
    have ha1 : (#[Value.slice (some ⟨p.blk, p.base + o, none⟩) k c', .int .i64 m] : Array Value)[1]? = some (.int .i64 m) := rfl
    have hwm : IntKind.i64.wrap m = m := by rw [IntKind.wrap_i64]; omega
    have hn0 : ¬ (m < 0) := by omega
    have hbb : (m.toNat : Int) = m := by omega
    have hbyt : i.bytes * m.toNat ≤ 1048576 * 1048576 := Nat.mul_le_mul d6 (by omega)
    have hbig : ¬ (m * (i.bytes : Int) > 2 ^ 48) := by
      have : m * (i.bytes : Int) = ((i.bytes * m.toNat : Nat) : Int) := by rw [Int.natCast_mul, hbb, Int.mul_comm]
      rw [this]; omega
    have hnk : ¬ (k + m.toNat ≤ c') := by omega
    have hmx : ∀ (b : Prop), ¬ (((k + m.toNat : Nat) : Int) > IntKind.i64.max ∧ b) := fun b h => by
      have h1 := h.1
      have : IntKind.i64.max = 9223372036854775807 := by decide
      rw [this] at h1; omega
    have hkb : (k + m.toNat) * i.bytes ≤ 1048576 * 1048576 := Nat.mul_le_mul d3 d6
    have hfit := growslice_fits (need := k + m.toNat) (old := c') (bytes := i.bytes) (by omega) (by omega)
    have hfit' : ¬ (Builtin.nextslicecap (k + m.toNat) c' * i.bytes > 2 ^ 48) := by omega
    have hsr : ∀ w2, (sizeOf e).run P w2 = .ok i.size w2 := fun w2 => by simp [sizeOf, typeInfo, hi]
    have htr : ∀ w2, (typeInfo e).run P w2 = .ok i w2 := fun w2 => by simp [typeInfo, hi]
    have hzr : ∀ w2, (zeroValue e).run P w2 = .ok z w2 := fun w2 => by simp [zeroValue, typeInfo, hi, hz]
    have hch : (choose (.appendCap (k + m.toNat) c' e)).run P w = .ok (grownCap w (k + m.toNat) c' e) w.drew := by
      simp [run_choose, Question.forced, grownCap]
    have happ : ((if m.toNat * i.size = 0 then (pure #[] : Sem (Array Value)) else do pure (Builtin.zeroCells (← zeroValue e).cells m.toNat))).run P w.drew = .ok (repV zs (m.toNat * i.size)).toArray w.drew := by
      by_cases h0 : m.toNat * i.size = 0
      · rw [if_pos h0, h0]
        simp [repV]
      · rw [if_neg h0]
        simp only [Sem.run_bind, hzr, Result.andThen_ok, Sem.run_pure, hzc]
    simp only [Builtin.append_, hg0, hg1, ha0, ha1, Sem.run_bind, run_underlying hu, run_underlying hu2, Result.andThen_ok, hsr, Sem.run_pure, if_true, asInt, asIntOf, hwm, Sem.run_ite, if_neg hn0, htr, if_neg hbig, if_neg hnk, if_neg (hmx _), if_neg hfit',
      hch, run_askRoom, hold w.drew rfl, Bool.not_true, Bool.false_eq_true, if_false, hzr, newRow, run_newObj]
    have happ2 : (if m.toNat * i.size = 0 then Result.ok #[] w.drew else Result.ok (Builtin.zeroCells z.cells m.toNat) w.drew) = Result.ok (repV zs (m.toNat * i.size)).toArray w.drew := by
      by_cases h0 : m.toNat * i.size = 0
      · rw [if_pos h0, h0]; simp [repV]
      · rw [if_neg h0, hzc]
    rw [happ2]
    simp only [Result.andThen_ok]
    congr 2
    simp

end
end Ev
end Go.Proofs.YtgidmgkebkodoaaGreatDoor
