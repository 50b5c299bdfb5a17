/- A run on closed data, reckoned by the kernel, 6: append, copy, clear, make, len. -/
import Derived.Test.YtgidmgkebkodoaaGreatDoorEv5
import Derived.Laws.AppendOwn
set_option linter.unusedSimpArgs false
set_option linter.unusedVariables false
set_option linter.unusedSectionVars false
namespace Go.Proofs.YtgidmgkebkodoaaGreatDoor
open Go.RowKit
namespace Ev
variable [Vars]

section
variable {P : Program} {o : Oper} {ρ : Operand → Value} {w : World} {σ : Sg} {t : Tr} {n : Nat} {r : Env}

theorem Ext.less {h h' h'' : Mem} {n n' : Nat} {σ σ' : Sg} {w w' : World} (e : Ext h n n' σ σ' h' w w') (hs : ∀ i o, h'' i = some o → h' i = some o) : Ext h n n' σ σ' h'' w w' :=
  ⟨e.le, e.more, e.off, e.holds.part hs, e.os, e.tape, e.output, e.size, e.frame, fun i o hi => e.live i o (hs i o hi), fun i o p hi => e.place i o p (hs i o hi)⟩

/-- A row that an append made is written on behind its end: under a new name. -/
theorem Ext.renew {h : Mem} (H : Holds σ h w) (hf : σ n = none) {b ob : Nat} {c : List Value} {e : TypeId} {es : Nat} (hb : h b = some (.cells c e es)) {p : Pl} (hp : σ b = some p) {xs xs' : List Value}
    (hx : LR σ xs xs') (ho : ob ≤ c.length) (hroom : c.length + xs.length ≤ p.avail) :
    Ext h n (n + 1) σ (σ.put n ⟨p.blk, p.base + ob, p.avail - ob, es⟩) (fun j => if j = n then some (.cells (c.drop ob ++ xs) e es) else if j = b then none else h j) w (w.setCells p.blk (p.base + c.length) xs') := by
  obtain ⟨q, arr, fz, h1, h2, h3, h4, h5, h6, h7⟩ := H.cells hb
  rw [hp] at h1; cases h1
  obtain ⟨arr', g1, g2, g3⟩ := setCells_heap p.blk e fz xs' (p.base + c.length) w arr h2 (by have := hx.1; omega)
  obtain ⟨r1, r2, r3, r4, r5⟩ := setCells_rest p.blk xs' (p.base + c.length) w
  have hle : Sg.le σ (σ.put n ⟨p.blk, p.base + ob, p.avail - ob, es⟩) := Sg.put_le hf
  have hnb : b ≠ n := fun e => by rw [e, hf] at hp; cases hp
  refine ⟨Nat.le_succ n, hle, fun i q hi => ?_, ⟨fun i oi hi => ?_, fun i j o1 o2 p1 p2 hi hj hpi hpj heq => ?_, fun k y hk => ?_, fun i oi q hi hq => ?_⟩, r1, r2, r3, by omega, fun k hk hn => r5 k fun he => hn b _ p hb hp he.symm, fun i oi hi => ?_, fun i oi q hi hq => ?_⟩
  rotate_left 3
  · rw [r5 k fun he => by have := H.apart b _ p hb hp; rw [← he, hk] at this; cases this]
    exact H.ro k y hk
  · unfold Sg.put at hq
    by_cases he : i = n
    · rw [if_pos he] at hq; cases hq; exact H.apart b _ p hb hp
    · rw [if_neg he] at hi hq
      by_cases hib : i = b
      · rw [if_pos hib] at hi; cases hi
      · rw [if_neg hib] at hi
        exact H.apart i oi q hi hq
  rotate_left 2
  · unfold Sg.put at hi
    by_cases he : i = n
    · exact .inr ⟨by omega, by omega⟩
    · rw [if_neg he] at hi; exact .inl hi
  · by_cases he : i = n
    · subst he
      rw [if_pos rfl] at hi
      cases hi
      refine ⟨_, _, Sg.put_same, g1, .cells _ _ _ _ _ _ (by dsimp only; omega) (by dsimp only; simp; omega) rfl (fun i x hx' => ?_) (fun k hk => h7 k (by omega))⟩
      dsimp only
      rcases Nat.lt_or_ge i (c.drop ob).length with hi | hi
      · rw [List.getElem?_append_left hi, List.getElem?_drop] at hx'
        obtain ⟨y, hy, hr⟩ := h6 _ _ hx'
        refine ⟨y, ?_, hr.mono hle⟩
        rw [List.length_drop] at hi
        rw [g3, if_neg (by omega), Nat.add_assoc]
        exact hy
      · rw [List.getElem?_append_right hi] at hx'
        obtain ⟨y, hy, hr⟩ := hx.get? hx'
        refine ⟨y, ?_, hr.mono hle⟩
        rw [List.length_drop] at hi hy
        have := (List.getElem?_eq_some_iff.1 hy).1
        rw [g3, if_pos (by omega), ← hy]
        congr 1
        omega
    · rw [if_neg he] at hi
      by_cases hib : i = b
      · rw [if_pos hib] at hi; cases hi
      · rw [if_neg hib] at hi
        obtain ⟨q, x, k1, k2, k3⟩ := H.lies i oi hi
        exact ⟨q, x, hle _ _ k1, by rw [r5 q.blk fun hbq => hib (H.inj i b _ _ _ _ hi hb k1 hp hbq), k2], k3.mono hle⟩
  · have key : ∀ m om pm, m ≠ n → (if m = n then some (VO.cells (c.drop ob ++ xs) e es) else if m = b then none else h m) = some om → (σ.put n ⟨p.blk, p.base + ob, p.avail - ob, es⟩) m = some pm → h m = some om ∧ σ m = some pm ∧ m ≠ b := by
      intro m om pm hmn hm hpm
      rw [if_neg hmn] at hm
      unfold Sg.put at hpm
      rw [if_neg hmn] at hpm
      by_cases hmb : m = b
      · rw [if_pos hmb] at hm; cases hm
      · rw [if_neg hmb] at hm; exact ⟨hm, hpm, hmb⟩
    have new : ∀ pm, (σ.put n ⟨p.blk, p.base + ob, p.avail - ob, es⟩) n = some pm → pm.blk = p.blk := by
      intro pm hpm
      rw [Sg.put_same] at hpm; cases hpm; rfl
    by_cases hin : i = n <;> by_cases hjn : j = n
    · omega
    · obtain ⟨a1, a2, a3⟩ := key j _ _ hjn hj hpj
      rw [hin] at hpi
      exact absurd (H.inj j b _ _ _ _ a1 hb a2 hp (heq ▸ new _ hpi)) a3
    · obtain ⟨a1, a2, a3⟩ := key i _ _ hin hi hpi
      rw [hjn] at hpj
      exact absurd (H.inj i b _ _ _ _ a1 hb a2 hp (heq.trans (new _ hpj))) a3
    · obtain ⟨a1, a2, a3⟩ := key i _ _ hin hi hpi
      obtain ⟨b1, b2, b3⟩ := key j _ _ hjn hj hpj
      exact H.inj i j _ _ _ _ a1 b1 a2 b2 heq
  · by_cases he : i = n
    · exact .inr ⟨by omega, by omega⟩
    · rw [if_neg he] at hi
      by_cases hib : i = b
      · rw [if_pos hib] at hi; cases hi
      · rw [if_neg hib] at hi; exact .inl ⟨oi, hi⟩
  · unfold Sg.put at hq
    by_cases he : i = n
    · rw [if_pos he] at hq; cases hq
      exact .inr ⟨b, _, p, hb, hp, rfl⟩
    · rw [if_neg he] at hi hq
      by_cases hib : i = b
      · rw [if_pos hib] at hi; cases hi
      · rw [if_neg hib] at hi
        exact .inr ⟨i, oi, q, hi, hq, rfl⟩

/-- What is appended: how many, and their cells. -/
def srcV (t : Tr) (size : Nat) : Value → Option (Nat × List Value)
  | .slice none 0 _ => some (0, [])
  | .slice (some ⟨b, o, none⟩) m _ => match t.mem b with
    | some (.cells c _ _) => bif Nat.ble (o + m * size) c.length then some (m, (c.drop o).take (m * size)) else none
    | _ => none
  | .string s => bif Nat.beq size 1 then some (s.data.toList.length, s.data.toList.map fun b => .int .u8 b.toNat) else none
  | _ => none

theorem srcV_ok {size m : Nat} {x x' : Value} {xs : List Value} (H : Holds σ t.mem w) (hx : VR σ x x') (h : srcV t size x = some (m, xs)) :
    ∃ ys, LR σ xs ys ∧ ys.length = m * size ∧ (∀ w2, (Builtin.lenOf x').run P w2 = .ok m w2) ∧ ∀ w2 : World, w2.heap = w.heap → (Builtin.firstCells size m x').run P w2 = .ok ys.toArray w2 := by
  unfold srcV at h
  split at h
  · cases h
    cases hx
    exact ⟨[], LR.nil, by simp, fun _ => rfl, fun _ _ => rfl⟩
  · rename_i b o k c
    split at h
    · rename_i c e es hb
      cases hc : Nat.ble (o + k * size) c.length with
      | false => rw [hc] at h; cases h
      | true =>
        rw [hc, cond_true] at h
        cases h
        cases hx with
        | sl b o n c c' p hp hcc hl =>
          obtain ⟨ys, h1, h2, h3⟩ := rangeLR H hb hp (Nat.le_of_ble_eq_true hc)
          refine ⟨ys, h1, h2, fun _ => rfl, fun w2 hw => ?_⟩
          have := run_loadCells_list (P := P) w2 ⟨p.blk, p.base + o, none⟩ ys (fun j v hv => by
            rw [Addr.add_mid]
            have := h3 j v hv
            simpa [World.cell?, hw] using this)
          rw [h2] at this
          exact this
    · cases h
  · rename_i s
    cases hc : Nat.beq size 1 with
    | false => rw [hc] at h; cases h
    | true =>
      rw [hc, cond_true] at h
      cases h
      cases hx
      have h1 : size = 1 := Nat.eq_of_beq_eq_true hc
      subst h1
      refine ⟨_, ⟨rfl, fun i a b => by simp only [List.getElem_map]; exact .int _ _⟩, by simp, fun _ => by rw [Array.length_toList]; rfl, fun w2 _ => ?_⟩
      have he : s.extract 0 s.data.toList.length = s := by rw [Array.length_toList]; exact ByteArray.extract_zero_size
      simp only [Builtin.firstCells, Sem.run_pure, he]
      congr 1
      apply Array.ext'
      simp
  · cases h

def notInt (P : Program) (t : TypeId) : Bool :=
  match P.underlying t with
  | some (.int _) => false
  | some _ => true
  | none => false
theorem notInt_ok {ty : TypeId} (h : notInt P ty = true) (w : World) : ∃ d, (underlying ty).run P w = .ok d w ∧ (d matches .int _) = false := by
  unfold notInt at h
  cases hu : P.underlying ty with
  | none => rw [hu] at h; cases h
  | some d =>
    refine ⟨d, run_underlying hu w, ?_⟩
    rw [hu] at h
    cases d <;> simp_all

theorem run_append_in {t1 t2 e ty : TypeId} {size k m c : Nat} {a : Addr} {x' : Value} {ys : List Value} {w' : World} (hu : P.underlying t1 = some (.slice e)) (h2 : notInt P t2 = true) (hs : sizeV P e = some size)
    (hlen : ∀ w2, (Builtin.lenOf x').run P w2 = .ok m w2) (hfc : (Builtin.firstCells size m x').run P w = .ok ys.toArray w) (hk : k + m ≤ c) (hst : (storeCells (a.add (k * size)) ys).run P w = .ok () w') :
    (Builtin.append_ #[t1, t2] ty #[.slice (some a) k c, x']).run P w = .ok (.slice (some a) (k + m) c) w' := by
  obtain ⟨d, hd, hdi⟩ := notInt_ok (P := P) h2 w
  have hg0 : (#[t1, t2] : Array TypeId)[0]? = some t1 := rfl
  have hg1 : (#[t1, t2] : Array TypeId)[1]? = some t2 := rfl
  have ha0 : (#[Value.slice (some a) k c, x'] : Array Value)[0]? = some (.slice (some a) k c) := rfl
  have ha1 : (#[Value.slice (some a) k c, x'] : Array Value)[1]? = some x' := rfl
  cases d <;> first
    | (simp at hdi; done)
    | simp only [Builtin.append_, hg0, hg1, ha0, ha1, Sem.run_bind, run_underlying hu, Result.andThen_ok, run_sizeV hs, hd, Sem.run_pure, if_false, Bool.false_eq_true, hlen, Sem.run_ite, if_pos hk, Bool.not_false, if_true, hfc, hst]

theorem run_append_out {t1 t2 e ty : TypeId} {size k m c bytes : Nat} {A : Option Addr} {x' z : Value} {zs os ys : List Value} {i : TypeInfo} (hu : P.underlying t1 = some (.slice e)) (h2 : notInt P t2 = true)
    (hi : P.info? e = some i) (hs : i.size = size) (hby : i.bytes = bytes) (hz : i.zero = some z) (hzc : z.cells.toList = zs)
    (hlen : ∀ w2, (Builtin.lenOf x').run P w2 = .ok m w2) (hfc : ∀ w2 : World, w2.heap = w.heap → (Builtin.firstCells size m x').run P w2 = .ok ys.toArray w2) (hold : ∀ w2 : World, w2.heap = w.heap → (Builtin.firstCells size k (.slice A k c)).run P w2 = .ok os.toArray w2)
    (hk : c < k + m) (hsm : k + m ≤ 1048576) (hb0 : 0 < bytes) (hbs : (k + m) * bytes ≤ 140737488355328) :
    (Builtin.append_ #[t1, t2] ty #[.slice A k c, x']).run P w =
      .ok (.slice (some ⟨w.heap.size, 0, none⟩) (k + m) (grownCap w (k + m) c e)) (w.drew.alloc (.cells (os.toArray ++ ys.toArray ++ Builtin.zeroCells z.cells (grownCap w (k + m) c e - (k + m))) e)) := by
  obtain ⟨d, hd, hdi⟩ := notInt_ok (P := P) h2 w
  have hg0 : (#[t1, t2] : Array TypeId)[0]? = some t1 := rfl
  have hg1 : (#[t1, t2] : Array TypeId)[1]? = some t2 := rfl
  have ha0 : (#[Value.slice A k c, x'] : Array Value)[0]? = some (.slice A k c) := rfl
  have ha1 : (#[Value.slice A k c, x'] : Array Value)[1]? = some x' := rfl
  have hnk : ¬ (k + m ≤ c) := by omega
  have hmx : ¬ (((k + m : Nat) : Int) > IntKind.i64.max ∧ (false = true ∨ i.bytes = 0)) := fun h => by have := h.2; simp at this; omega
  have hfit := growslice_fits (need := k + m) (old := c) (bytes := bytes) hk hbs
  have hfit' : ¬ (Builtin.nextslicecap (k + m) c * i.bytes > 2 ^ 48) := by rw [hby]; omega
  have hsr : ∀ w2, (sizeOf e).run P w2 = .ok size w2 := fun w2 => by simp [sizeOf, typeInfo, hi, hs]
  have htr : ∀ w2, (typeInfo e).run P w2 = .ok i w2 := fun w2 => by simp [typeInfo, hi]
  have hzr : ∀ w2, (zeroValue e).run P w2 = .ok z w2 := fun w2 => by simp [zeroValue, typeInfo, hi, hz]
  have hch : (choose (.appendCap (k + m) c e)).run P w = .ok (grownCap w (k + m) c e) w.drew := by
    simp [run_choose, Question.forced, grownCap]
  have hmx' : ¬ (((k + m : Nat) : Int) > IntKind.i64.max ∧ (False ∨ i.bytes = 0)) := fun h => by have := h.2; simp at this; omega
  cases d <;> first
    | (simp at hdi; done)
    | (simp only [Builtin.append_, hg0, hg1, ha0, ha1, Sem.run_bind, run_underlying hu, Result.andThen_ok, hsr, hd, Sem.run_pure, if_false, Bool.false_eq_true, hlen, Sem.run_ite, if_neg hnk, htr, if_neg hmx, if_neg hmx', if_neg hfit', Bool.not_false, if_true,
        hch, run_askRoom, hold w.drew rfl, hfc w.drew rfl, hzr, newRow, run_newObj]
       rfl)

end
end Ev
end Go.Proofs.YtgidmgkebkodoaaGreatDoor
