/- A run on closed data, reckoned by the kernel, 23: an argument that is a slice of parts of one cell each, which is never written: variable 100 is the slice, 101 + i the place of part i, variable i (below 100) part i. -/
import Derived.Test.YtinodpaacnnjcaaEvVars
set_option linter.unusedSimpArgs false
set_option linter.unusedVariables false
set_option linter.unusedSectionVars false
namespace Go.Proofs.Ytinodpaacnnjcaa
open Go.RowKit
namespace Ev

def rowVal (val : Nat → Value) (b o L c : Nat) (k : Nat) : Value :=
  bif Nat.blt k 100 then val k else bif Nat.beq k 100 then .slice (some ⟨b, o, none⟩) L c else .pointer (some ⟨b, o + (k - 101), none⟩)
def rowLen (P : Program) (L : Nat) (c : Call) (u : Value) : Option Value :=
  match c.callee, c.argTypes.toList with
  | .builtin .len, [ty] => match P.underlying ty with
    | some (.slice _) => match u with
      | .complex .f64 k 1 => bif Nat.beq k 100 then some (.int .i64 (L : Int)) else none
      | _ => none
    | _ => none
  | _, _ => none
def rowAddr (P : Program) (L : Nat) (ty : TypeId) (u : Value) (i : Int) : Option Value :=
  match P.underlying ty with
  | some (.slice e) => match sizeV P e, u with
    | some 1, .complex .f64 k 1 => bif Nat.beq k 100 && decide (0 ≤ i) && decide (i < (L : Int)) then some (.complex .f64 (101 + i.toNat) 1) else none
    | _, _ => none
  | _ => none
def rowLoad (P : Program) (L : Nat) (ty : TypeId) (u : Value) : Option Value :=
  match rowB P ty, u with
  | some false, .complex .f64 k 1 => bif Nat.ble 101 k && Nat.blt (k - 101) L then some (.complex .f64 (k - 101) 1) else none
  | _, _ => none
def rowFact (L : Nat) (fs : List Fact) (ms : List Least) (P : Program) (op : Op) (vs : List Value) : Option Value :=
  match op, vs with
  | .indexAddr ty _ _, [u, .int _ i] => rowAddr P L ty u i
  | .load ty _, [u] => rowLoad P L ty u
  | .call c, [u] => rowLen P L c u
  | .binOp b _ _ _ _, [u, v] => lookF fs b u v
  | .call c, us => match c.callee with
    | .builtin .min => lookM ms us
    | _ => none
  | _, _ => none

/-- Variables by tables, and such a slice. -/
@[reducible] def rowVars (val : Nat → Value) (b o L c : Nat) (arr : Array Value) (e : TypeId) (fz : Nat × Nat) (hL : L < 100) (harr : ∀ i, i < L → arr[o + i]? = some (val i))
    (one : ∀ k, (∃ j n, val k = .int j n) ∨ (∃ s, val k = .string s) ∨ (∃ a, val k = .pointer (some a)) ∨ ∃ a n c, val k = .slice (some a) n c)
    (fs : List Fact) (ms : List Least) (hf : ∀ f ∈ fs, f.ok (rowVal val b o L c)) (hm : ∀ m ∈ ms, m.ok (rowVal val b o L c)) : Vars where
  on := true
  val := rowVal val b o L c
  one := by
    intro k
    unfold rowVal
    cases Nat.blt k 100 with
    | true => exact one k
    | false =>
      cases Nat.beq k 100 with
      | true => exact .inr (.inr (.inr ⟨_, _, _, rfl⟩))
      | false => exact .inr (.inr (.inl ⟨_, rfl⟩))
  ro := fun k => if k = b then some (.cells arr e fz) else none
  fact := rowFact L fs ms
  ok := by
    intro P op ρ vs v w h hro hv
    letI : Vars := noVars
    have hw : w.heap[b]? = some (.cells arr e fz) := hro b _ (if_pos rfl)
    have tok : ∀ k, conc (rowVal val b o L c) (.complex .f64 k 1) = rowVal val b o L c k := fun k => rfl
    unfold rowFact at h
    split at h
    · rename_i vs ty x ix u kk i ho
      unfold rowAddr at h
      split at h
      case h_2 => cases h
      rename_i el hu
      split at h
      case h_2 => cases h
      rename_i k hsz
      cases hc : (Nat.beq k 100 && decide (0 ≤ i) && decide (i < (L : Int))) with
      | false => rw [hc] at h; cases h
      | true =>
        rw [hc, cond_true, Option.some.injEq] at h
        subst h
        simp only [Bool.and_eq_true, decide_eq_true_eq] at hc
        obtain ⟨⟨c1, c2⟩, c3⟩ := hc
        have c1 := Nat.eq_of_beq_eq_true c1
        subst c1
        rw [ho] at hv
        simp only [Op.operands, List.map_cons, List.map_nil, List.cons.injEq, and_true, tok] at hv
        obtain ⟨e1, e2⟩ := hv
        have e1 : ρ x = .slice (some ⟨b, o, none⟩) L c := e1
        have e2 : ρ ix = .int kk i := e2
        have hb : Nat.blt (101 + i.toNat) 100 = false := by
          cases hb : Nat.blt (101 + i.toNat) 100 with
          | false => rfl
          | true => have : 101 + i.toNat < 100 := Nat.le_of_ble_eq_true hb; omega
        have hr : rowVal val b o L c (101 + i.toNat) = .pointer (some ⟨b, o + i.toNat, none⟩) := by
          unfold rowVal
          rw [hb, beqF (by omega : 101 + i.toNat ≠ 100)]
          show Value.pointer (some ⟨b, o + (101 + i.toNat - 101), none⟩) = _
          rw [Nat.add_sub_cancel_left]
        have hrun : (Instr.indexAt ty (.slice (some ⟨b, o, none⟩) L c) (.int kk i)).run P w = .ok (.pointer (some ⟨b, o + i.toNat, none⟩)) w := by
          simp only [Instr.indexAt, asIntOf, Sem.run_bind, Sem.run_pure, Result.andThen_ok, run_underlying hu, Sem.run_ite, run_sizeV hsz]
          rw [if_pos ⟨c2, c3⟩]
          simp [Addr.add_mid, Nat.add_assoc]
        rw [tok, hr]
        simp [execOp, ho, e1, e2, Sem.run_bind, hrun]
    · rename_i vs ty x u ho
      unfold rowLoad at h
      split at h
      case h_2 => cases h
      rename_i k hrow
      cases hc : (Nat.ble 101 k && Nat.blt (k - 101) L) with
      | false => rw [hc] at h; cases h
      | true =>
        rw [hc, cond_true, Option.some.injEq] at h
        subst h
        simp only [Bool.and_eq_true] at hc
        have c1 : 101 ≤ k := Nat.le_of_ble_eq_true hc.1
        have c2 : k - 101 < L := Nat.le_of_ble_eq_true hc.2
        rw [ho] at hv
        simp only [Op.operands, List.map_cons, List.map_nil, List.cons.injEq, and_true, tok] at hv
        have hb : Nat.blt k 100 = false := by
          cases hb : Nat.blt k 100 with
          | false => rfl
          | true => have : k < 100 := Nat.le_of_ble_eq_true hb; omega
        have hr : rowVal val b o L c k = .pointer (some ⟨b, o + (k - 101), none⟩) := by
          unfold rowVal
          rw [hb, beqF (by omega : k ≠ 100)]
          rfl
        have hr2 : rowVal val b o L c (k - 101) = val (k - 101) := by
          unfold rowVal
          have : Nat.blt (k - 101) 100 = true := Nat.ble_eq_true_of_le (by show k - 101 + 1 ≤ 100; omega)
          rw [this]
          rfl
        rw [hr] at hv
        have hrun : (Instr.loadAt ty (.pointer (some ⟨b, o + (k - 101), none⟩))).run P w = .ok (val (k - 101)) w := by
          simp [Instr.loadAt, Instr.sureAddr, loadVar, Sem.run_bind, run_isAgg hrow, world_cell hw, harr _ c2]
        rw [tok, hr2]
        simp [execOp, ho, hv, Sem.run_bind, hrun]
    · rename_i vs cl u ho
      unfold rowLen at h
      split at h
      case h_2 => cases h
      rename_i ty hcal hta
      split at h
      case h_2 => cases h
      rename_i el hu
      split at h
      case h_2 => cases h
      rename_i k
      cases hc : Nat.beq k 100 with
      | false => rw [hc] at h; cases h
      | true =>
        rw [hc, cond_true, Option.some.injEq] at h
        subst h
        have c1 := Nat.eq_of_beq_eq_true hc
        subst c1
        rw [ho] at hv
        simp only [Op.operands, Call.operands, hcal, Array.empty_append, tok, List.map_cons, List.map_nil] at hv
        have hv' : cl.args.map ρ = #[.slice (some ⟨b, o, none⟩) L c] := by
          apply Array.ext'
          have r100 : rowVal val b o L c 100 = .slice (some ⟨b, o, none⟩) L c := rfl
          simpa [r100] using hv
        have h2 : cl.argTypes = #[ty] := by apply Array.ext'; simpa using hta
        have hg0 : (#[ty] : Array TypeId)[0]? = some ty := rfl
        have ha0 : (#[Value.slice (some ⟨b, o, none⟩) L c] : Array Value)[0]? = some (.slice (some ⟨b, o, none⟩) L c) := rfl
        simp [execOp, ho, hcal, hv', h2, hg0, ha0, resolve, invoke, builtin, Builtin.len_, Sem.run_bind, run_underlying hu, goInt, conc]
    · rename_i b' ty x y g us u v1 ho
      have hfact := hf _ (lookF_mem h)
      rw [ho] at hv
      simp only [Op.operands, List.map_cons, List.map_nil, List.cons.injEq, and_true] at hv
      obtain ⟨e1, e2⟩ := hv
      rcases hfact with ⟨k, a, b', h1, h2, h3⟩ | ⟨a, b', h1, h2, h3⟩
      · simp only at h1 h2 h3
        rw [h1] at e1; rw [h2] at e2
        simp [execOp, ho, e1, e2, Sem.run_bind, run_eqGuard_int, intRun_ok h3]
      · simp only at h1 h2 h3
        rw [h1] at e1; rw [h2] at e2
        simp [execOp, ho, e1, e2, Sem.run_bind, run_eqGuard_str, strRun_ok h3]
    · rename_i us cl ho hne
      split at h
      case h_2 => cases h
      rename_i hcal
      obtain ⟨k, a, bs, h1, h2⟩ := hm _ (lookM_mem h)
      rw [ho] at hv
      simp only [Op.operands, Call.operands, hcal, Array.empty_append] at hv
      simp only at h1 h2
      rw [h1] at hv
      have hv' : cl.args.toList.map ρ = .int k a :: bs.map (Value.int k) := by simpa using hv
      have hr := run_least (P := P) k w bs a
      simp [execOp, ho, resolve, hcal, invoke, builtin, Sem.run_bind, Builtin.min_, hv', hr, h2]
    · cases h

end Ev
end Go.Proofs.Ytinodpaacnnjcaa
