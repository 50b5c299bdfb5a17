/- A run on closed data, reckoned by the kernel, 17: what is ahead of what in a region that draws its order. -/
import Derived.Test.YtgidmgkebkodoaaGreatDoorEv16
import Derived.Orders
set_option linter.unusedSimpArgs false
set_option linter.unusedVariables false
set_option linter.unusedSectionVars false
namespace Go.Proofs.YtgidmgkebkodoaaGreatDoor
open Go.RowKit
namespace Ev
variable [Vars]

theorem tb_or (a b j : Nat) : Nat.testBit (a ||| b) j = (Nat.testBit a j || Nat.testBit b j) := Nat.testBit_or a b j
theorem tb_pow (i j : Nat) : Nat.testBit (2 ^ i) j = decide (i = j) := Nat.testBit_two_pow

theorem edgeMask_bit (acc : List Nat) : ∀ (es : List Edge) (s j : Nat), Nat.testBit (edgeMask acc es s) j = true →
    Nat.testBit s j = true ∨ ∃ e ∈ es, Region.binds .any e = true ∧ (e.on = j ∨ Nat.testBit (acc.getD e.on 0) j = true)
  | [], s, j, h => .inl h
  | e :: es, s, j, h => by
    simp only [edgeMask] at h
    cases hb : Region.binds .any e with
    | true =>
      rw [hb, cond_true] at h
      rcases edgeMask_bit acc es _ j h with h1 | ⟨e', he', hb', hr⟩
      · rw [tb_or, tb_or, tb_pow] at h1
        simp only [Bool.or_eq_true, decide_eq_true_eq] at h1
        rcases h1 with (h1 | h1) | h1
        · exact .inl h1
        · exact .inr ⟨e, by simp, hb, .inl h1⟩
        · exact .inr ⟨e, by simp, hb, .inr h1⟩
      · exact .inr ⟨e', by simp [he'], hb', hr⟩
    | false =>
      rw [hb, cond_false] at h
      rcases edgeMask_bit acc es _ j h with h1 | ⟨e', he', hb', hr⟩
      · exact .inl h1
      · exact .inr ⟨e', by simp [he'], hb', hr⟩

/-- A set that has, with an operation, all that it waits for. -/
def Down (ops : List Oper) (L : Nat → Prop) : Prop := ∀ (j : Nat) (o : Oper) (e : Edge), ops[j]? = some o → L j → e ∈ o.after.toList → Region.binds .any e = true → L e.on

/-- What is ahead of an operation whose waits are over is in the set. -/
def AncOK (ops : List Oper) (acc : List Nat) : Prop := ∀ (i m : Nat), acc[i]? = some m → ∀ L, Down ops L → (∀ (o : Oper) (e : Edge), ops[i]? = some o → e ∈ o.after.toList → Region.binds .any e = true → L e.on) → ∀ j, Nat.testBit m j = true → L j

theorem ancs_ok (ops : List Oper) : ∀ (rest : List Oper) (acc : List Nat), ops.drop acc.length = rest → AncOK ops acc → AncOK ops (ancs rest acc)
  | [], acc, hd, ha => ha
  | o :: rest, acc, hd, ha => by
    simp only [ancs]
    have hlt : acc.length < ops.length := by
      rcases Nat.lt_or_ge acc.length ops.length with h | h
      · exact h
      · rw [List.drop_eq_nil_iff.2 h] at hd; cases hd
    have hc := List.drop_eq_getElem_cons (l := ops) hlt
    rw [hd] at hc
    injection hc with ho hr
    have hoi : ops[acc.length]? = some o := by rw [List.getElem?_eq_getElem hlt, ho]
    refine ancs_ok ops rest _ (by rw [List.length_append, List.length_singleton]; exact hr.symm) ?_
    intro i m hm L hL hi j hj
    rcases Nat.lt_or_ge i acc.length with h | h
    · rw [List.getElem?_append_left h] at hm
      exact ha i m hm L hL hi j hj
    · rw [List.getElem?_append_right h] at hm
      have h0 : i - acc.length = 0 := by
        have := (List.getElem?_eq_some_iff.1 hm).1
        simp at this; omega
      have hi0 : i = acc.length := by omega
      subst hi0
      rw [h0] at hm
      simp only [List.getElem?_cons_zero, Option.some.injEq] at hm
      subst hm
      rcases edgeMask_bit acc _ 0 j hj with h1 | ⟨e, he, hb, hr'⟩
      · simp at h1
      · have hon := hi o e hoi he hb
        rcases hr' with h1 | h1
        · rw [← h1]; exact hon
        · cases hg : acc[e.on]? with
          | none => rw [List.getD_eq_getElem?_getD, hg] at h1; simp at h1
          | some m' =>
            rw [List.getD_eq_getElem?_getD, hg] at h1
            exact ha e.on m' hg L hL (fun o' e' ho' he' hb' => hL e.on o' e' ho' hon he' hb') j h1

theorem anc_in (ops : List Oper) {L : Nat → Prop} (hL : Down ops L) {i : Nat} (hi : ∀ (o : Oper) (e : Edge), ops[i]? = some o → e ∈ o.after.toList → Region.binds .any e = true → L e.on) {j : Nat}
    (hj : Nat.testBit ((ancs ops []).getD i 0) j = true) : L j := by
  cases hg : (ancs ops [])[i]? with
  | none => rw [List.getD_eq_getElem?_getD, hg] at hj; simp at hj
  | some m =>
    rw [List.getD_eq_getElem?_getD, hg] at hj
    exact ancs_ok ops ops [] rfl (fun i m h => by simp at h) i m hg L hL hi j hj

/-- One order, taken apart. -/
theorem ordOK_cons {ops : List Oper} {ms : List Nat} {size i done : Nat} {rest : List Nat} (h : ordOK ops ms size (i :: rest) done = true) :
    ∃ o, ops[i]? = some o ∧ i < size ∧ Nat.testBit done i = false ∧ edgesIn done o.after.toList = true ∧ (isLoud o = true → sub done (ms.getD i 0) = true) ∧
      (∀ x ∈ tmpsOf ops o, (writersIn ops (ms.getD i 0) x size = true ∧ ∀ j ∈ i :: rest, dstIs ops x j = false) ∨ (writersOut ops ms i x size = true ∧ unwritten ops done x size = true)) ∧
      (∀ d, o.dst = some d → ∀ j ∈ rest, dstIs ops d j = false) ∧ ordOK ops ms size rest (done ||| 2 ^ i) = true := by
  simp only [ordOK] at h
  split at h
  · cases h
  · rename_i o ho
    simp only [Bool.and_eq_true, Bool.not_eq_true', Bool.or_eq_true, List.all_eq_true] at h
    obtain ⟨⟨⟨⟨⟨⟨h1, h2⟩, h3⟩, h4⟩, h5⟩, h6⟩, h7⟩ := h
    refine ⟨o, ho, Nat.le_of_ble_eq_true h1, h2, h3, fun hl => ?_, fun x hx => ?_, fun d hd j hj => ?_, h7⟩
    · rcases h4 with h4 | h4
      · rw [hl] at h4; cases h4
      · exact h4
    · exact h5 x hx
    · rw [hd] at h6
      simp only [List.all_eq_true, Bool.not_eq_true'] at h6
      exact h6 j hj

theorem edgesIn_ok {done : Nat} : ∀ {es : List Edge}, edgesIn done es = true → ∀ e ∈ es, Region.binds .any e = true → Nat.testBit done e.on = true
  | [], _, e, he, _ => by simp at he
  | e0 :: es, h, e, he, hb => by
    simp only [edgesIn, Bool.and_eq_true, Bool.or_eq_true, Bool.not_eq_true'] at h
    rcases List.mem_cons.1 he with rfl | he
    · rcases h.1 with h1 | h1
      · rw [hb] at h1; cases h1
      · exact h1
    · exact edgesIn_ok h.2 e he hb

theorem ordOK_all {ops : List Oper} {ms : List Nat} {size : Nat} : ∀ {R : List Nat} {done : Nat}, ordOK ops ms size R done = true → ∀ j, j < size → Nat.testBit done j = true ∨ j ∈ R
  | [], done, h, j, hj => by
    simp only [ordOK] at h
    have := Nat.eq_of_beq_eq_true h
    subst this
    exact .inl (by rw [Nat.testBit_two_pow_sub_one]; simpa using hj)
  | i :: rest, done, h, j, hj => by
    obtain ⟨o, _, _, _, _, _, _, _, h7⟩ := ordOK_cons h
    rcases ordOK_all h7 j hj with h1 | h1
    · rw [tb_or, tb_pow] at h1
      simp only [Bool.or_eq_true, decide_eq_true_eq] at h1
      rcases h1 with h1 | h1
      · exact .inl h1
      · exact .inr (by simp [h1])
    · exact .inr (by simp [h1])

theorem ordOK_not {ops : List Oper} {ms : List Nat} {size : Nat} : ∀ {R : List Nat} {done : Nat}, ordOK ops ms size R done = true → ∀ j ∈ R, Nat.testBit done j = false ∧ j < size
  | i :: rest, done, h, j, hj => by
    obtain ⟨o, _, h2, h3, _, _, _, _, h7⟩ := ordOK_cons h
    rcases List.mem_cons.1 hj with rfl | hj
    · exact ⟨h3, h2⟩
    · have := ordOK_not h7 j hj
      rw [tb_or] at this
      simp only [Bool.or_eq_false_iff] at this
      exact ⟨this.1.1, this.2⟩
  | [], _, _, j, hj => by simp at hj

theorem ordOK_nodup {ops : List Oper} {ms : List Nat} {size : Nat} {i : Nat} {rest : List Nat} {done : Nat} (h : ordOK ops ms size (i :: rest) done = true) : i ∉ rest := by
  obtain ⟨o, _, _, _, _, _, _, _, h7⟩ := ordOK_cons h
  intro hi
  have := ordOK_not h7 i hi
  rw [tb_or, tb_pow] at this
  simp at this

theorem writersIn_ok {ops : List Oper} {m : Nat} {x : Tmp} : ∀ {k : Nat}, writersIn ops m x k = true → ∀ j, j < k → dstIs ops x j = true → Nat.testBit m j = true
  | 0, _, j, hj, _ => by omega
  | k + 1, h, j, hj, hd => by
    simp only [writersIn, Bool.and_eq_true, Bool.or_eq_true, Bool.not_eq_true'] at h
    by_cases he : j = k
    · subst he
      rcases h.1 with h1 | h1
      · rw [hd] at h1; cases h1
      · exact h1
    · exact writersIn_ok h.2 j (by omega) hd
theorem writersOut_ok {ops : List Oper} {ms : List Nat} {i : Nat} {x : Tmp} : ∀ {k : Nat}, writersOut ops ms i x k = true → ∀ j, j < k → dstIs ops x j = true → Nat.testBit (ms.getD j 0) i = true
  | 0, _, j, hj, _ => by omega
  | k + 1, h, j, hj, hd => by
    simp only [writersOut, Bool.and_eq_true, Bool.or_eq_true, Bool.not_eq_true'] at h
    by_cases he : j = k
    · subst he
      rcases h.1 with h1 | h1
      · rw [hd] at h1; cases h1
      · exact h1
    · exact writersOut_ok h.2 j (by omega) hd
theorem unwritten_ok {ops : List Oper} {done : Nat} {x : Tmp} : ∀ {k : Nat}, unwritten ops done x k = true → ∀ j, j < k → Nat.testBit done j = true → dstIs ops x j = false
  | 0, _, j, hj, _ => by omega
  | k + 1, h, j, hj, hd => by
    simp only [unwritten, Bool.and_eq_true, Bool.or_eq_true, Bool.not_eq_true'] at h
    by_cases he : j = k
    · subst he
      rcases h.1 with h1 | h1
      · exact h1
      · rw [hd] at h1; cases h1
    · exact unwritten_ok h.2 j (by omega) hd

theorem sub_ok {a b : Nat} (h : sub a b = true) {j : Nat} (hj : Nat.testBit a j = true) : Nat.testBit b j = true := by
  have := Nat.eq_of_beq_eq_true h
  have h2 : Nat.testBit (Nat.land a b) j = true := by rw [this]; exact hj
  have h3 : Nat.testBit (a &&& b) j = true := h2
  rw [Nat.testBit_and] at h3
  simp only [Bool.and_eq_true] at h3
  exact h3.2
theorem sub_of {a b : Nat} (h : ∀ j, Nat.testBit a j = true → Nat.testBit b j = true) : sub a b = true := by
  unfold sub
  refine beqT (Nat.eq_of_testBit_eq fun j => ?_)
  show Nat.testBit (a &&& b) j = _
  rw [Nat.testBit_and]
  cases ha : Nat.testBit a j with
  | false => rfl
  | true => rw [h j ha]; rfl

theorem loudMask_bit : ∀ (os : List Oper) (k s j : Nat), Nat.testBit (loudMask os k s) j = true ↔ (Nat.testBit s j = true ∨ ∃ i o, os[i]? = some o ∧ isLoud o = true ∧ j = k + i)
  | [], k, s, j => by simp [loudMask]
  | o :: os, k, s, j => by
    simp only [loudMask]
    rw [loudMask_bit os (k + 1)]
    constructor
    · rintro (h | ⟨i, o', h1, h2, h3⟩)
      · cases hl : isLoud o with
        | true =>
          rw [hl, cond_true, tb_or, tb_pow] at h
          simp only [Bool.or_eq_true, decide_eq_true_eq] at h
          rcases h with h | h
          · exact .inl h
          · exact .inr ⟨0, o, rfl, hl, by omega⟩
        | false => rw [hl, cond_false] at h; exact .inl h
      · exact .inr ⟨i + 1, o', by simpa using h1, h2, by omega⟩
    · rintro (h | ⟨i, o', h1, h2, h3⟩)
      · left
        cases hl : isLoud o with
        | true => rw [cond_true, tb_or, h]; rfl
        | false => exact h
      · cases i with
        | zero =>
          simp only [List.getElem?_cons_zero, Option.some.injEq] at h1
          subst h1
          left
          rw [h2, cond_true, tb_or, tb_pow]
          simp; right; omega
        | succ i => exact .inr ⟨i, o', by simpa using h1, h2, by omega⟩

theorem memN_iff : ∀ {x : Nat} {l : List Nat}, memN x l = true ↔ x ∈ l
  | x, [] => by simp [memN]
  | x, y :: ys => by
    simp only [memN, Bool.or_eq_true, List.mem_cons]
    rw [memN_iff]
    constructor
    · rintro (h | h)
      · exact .inl (Nat.eq_of_beq_eq_true h)
      · exact .inr h
    · rintro (h | h)
      · exact .inl (beqT h)
      · exact .inr h

end Ev
end Go.Proofs.YtgidmgkebkodoaaGreatDoor
