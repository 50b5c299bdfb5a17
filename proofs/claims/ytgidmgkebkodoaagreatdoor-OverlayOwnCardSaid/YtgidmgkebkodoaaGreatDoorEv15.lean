/- A run on closed data, reckoned by the kernel, 15: a region that draws its order, as it is reckoned: in one order, and what must hold for all orders. -/
import Derived.Test.YtgidmgkebkodoaaGreatDoorEv14
set_option linter.unusedSimpArgs false
set_option linter.unusedVariables false
set_option linter.unusedSectionVars false
namespace Go.Proofs.YtgidmgkebkodoaaGreatDoor
open Go.RowKit
namespace Ev
variable [Vars]

/-! new blocks, told apart from where they come to lie -/
inductive Sh where
  | ptr
  | sl (len cap : Nat)
def Sh.val (s : Sh) (n : Nat) : Value :=
  match s with
  | .ptr => .pointer (some ⟨n, 0, none⟩)
  | .sl l c => .slice (some ⟨n, 0, none⟩) l c

structure New where
  cs : List Value
  e : TypeId
  sh : Sh

def evNew (P : Program) (r : Env) (o : Oper) : Option New :=
  match o.op with
  | .alloc ty => match zeroV P ty with
    | some cs => some ⟨cs, ty, .ptr⟩
    | none => none
  | .box ty x => match r x with
    | some v => some ⟨v.cells.toList, ty, .ptr⟩
    | none => none
  | .buildSlice ty len ps => match P.underlying ty with
    | some (.slice e) => match sizeV P e, zeroV P e, partsV r ps.toList with
      | some k, some zs, some l => bif Nat.ble (len * k) 16777216 && Nat.beq zs.length k then
          match fillL (fun i => some (i * k, k)) (repV zs (len * k)) l with
          | some rs => some ⟨rs, e, .sl len len⟩
          | none => none
        else none
      | _, _, _ => none
    | _ => none
  | _ => none

def isNew (o : Oper) : Bool :=
  match o.op with
  | .alloc _ | .box .. | .buildSlice .. => true
  | _ => false

section
variable {P : Program} {o : Oper} {ρ : Operand → Value} {w : World} {σ : Sg} {r : Env}

theorem evNew_ok {N : New} (hr : r.ok σ ρ) (h : evNew P r o = some N) (w : World) : ∃ cs', LR σ N.cs cs' ∧ (execOp ρ o).run P w = .ok (.value (N.sh.val w.heap.size)) (w.alloc (.cells cs'.toArray N.e)) := by
  unfold evNew at h
  split at h
  · rename_i ty ho
    split at h
    case h_2 => cases h
    rename_i cs hcs
    cases h
    obtain ⟨z, hz, hzc, hl⟩ := zeroV_ok (w := w) (σ := σ) hcs
    exact ⟨cs, hl, by simp [execOp, ho, Instr.alloc, Sem.run_bind, hz, newVar, newRow, ← hzc, Sh.val]⟩
  · rename_i ty x ho
    split at h
    case h_2 => cases h
    rename_i v hv
    cases h
    exact ⟨_, (hr _ _ hv).cells, by simp [execOp, ho, Instr.box, Sem.run_bind, newVar, newRow, Sh.val]⟩
  · rename_i ty len ps ho
    have hps : (ps.map fun (x : Nat × Operand) => (x.1, ρ x.2)).toList = ps.toList.map fun (x : Nat × Operand) => (x.1, ρ x.2) := by simp
    split at h
    case h_2 => cases h
    rename_i e hu
    split at h
    case h_2 => cases h
    rename_i k zs l hk hzs hl
    cases hc : (Nat.ble (len * k) 16777216 && Nat.beq zs.length k) with
    | false => rw [hc] at h; cases h
    | true =>
      rw [hc, cond_true] at h
      split at h
      case h_2 => cases h
      rename_i rs hrs
      cases h
      simp only [Bool.and_eq_true] at hc
      have h1 := Nat.le_of_ble_eq_true hc.1
      have h2 := Nat.eq_of_beq_eq_true hc.2
      obtain ⟨z, hz, hzc, hzl⟩ := zeroV_ok (w := w) (σ := σ) hzs
      obtain ⟨g1, g2⟩ := partsV_ok hr _ _ hl
      have hpos : 0 < len * k → 0 < zs.length := fun hp => by
        rw [h2]
        exact Nat.pos_of_mul_pos_left hp
      obtain ⟨rs', hrr, hf⟩ := fillL_ok _ _ _ _ _ _ (repV_ok hzl (len * k) hpos) g1 g2 hrs
      have hza : z.cells = zs.toArray := by rw [← hzc]
      refine ⟨rs', hrr, ?_⟩
      have hrun : (Instr.buildSlice ty len (ps.map fun (x : Nat × Operand) => (x.1, ρ x.2))).run P w = .ok (.slice (some ⟨w.heap.size, 0, none⟩) len len) (w.alloc (.cells rs'.toArray e)) := by
        have hbig : ¬ (len * k > 2 ^ 24) := by omega
        simp only [Instr.buildSlice, Sem.run_bind, run_underlying hu, Result.andThen_ok, run_sizeV hk, Sem.run_ite, if_neg hbig, Sem.run_pure]
        by_cases h0 : len * k = 0
        · rw [if_pos h0]
          have hrep : ((Array.range (len * k)).map (fun x => (#[] : Array Value)[x % (#[] : Array Value).size]!)) = (repV zs (len * k)).toArray := by
            rw [h0]; simp [repV]
          rw [hrep, hps, hf]
          simp [newRow, Sem.run_bind]
        · rw [if_neg h0]
          simp only [Sem.run_bind, hz, Result.andThen_ok, Sem.run_pure, hza]
          rw [repV_eq hpos, hps, hf]
          simp [newRow, Sem.run_bind]
      have hex : execOp ρ o = (do pure (.value (← Instr.buildSlice ty len (ps.map fun (x : Nat × Operand) => (x.1, ρ x.2))))) := by
        unfold execOp; rw [ho]
      rw [hex, Sem.run_bind, hrun]
      rfl
  · cases h

theorem Sh.rel (s : Sh) {n : Nat} {p : Pl} (h : σ n = some p) (hb : p.base = 0) (he : p.es = 0) : VR σ (s.val n) (s.val p.blk) := by
  cases s with
  | ptr => have := VR.ptr (σ := σ) n 0 p h; rw [hb] at this; exact this
  | sl l c => have := VR.sl (σ := σ) n 0 l c c p h (Nat.le_refl _) (.inl ⟨he, rfl⟩); rw [hb] at this; exact this
end

/-! values, compared -/
def addrEq : Option Addr → Option Addr → Bool
  | none, none => true
  | some ⟨b, o, none⟩, some ⟨c, p, none⟩ => Nat.beq b c && Nat.beq o p
  | _, _ => false
theorem addrEq_ok {a b : Option Addr} (h : addrEq a b = true) : a = b := by
  unfold addrEq at h
  split at h
  · rfl
  · simp only [Bool.and_eq_true] at h
    rw [Nat.eq_of_beq_eq_true h.1, Nat.eq_of_beq_eq_true h.2]
  · cases h

def listEq (f : Value → Value → Bool) : List Value → List Value → Bool
  | [], [] => true
  | x :: xs, y :: ys => f x y && listEq f xs ys
  | _, _ => false
theorem listEq_ok {f : Value → Value → Bool} (hf : ∀ x y, f x y = true → x = y) : ∀ xs ys, listEq f xs ys = true → xs = ys
  | [], [], _ => rfl
  | x :: xs, y :: ys, h => by
    simp only [listEq, Bool.and_eq_true] at h
    rw [hf x y h.1, listEq_ok hf xs ys h.2]
  | [], _ :: _, h => by simp [listEq] at h
  | _ :: _, [], h => by simp [listEq] at h

def valEq : Nat → Value → Value → Bool
  | _, .bool a, .bool b => a == b
  | _, .int j a, .int k b => j == k && a == b
  | _, .string a, .string b => a.data.toList == b.data.toList
  | _, .pointer a, .pointer b => addrEq a b
  | _, .slice a n c, .slice b m d => addrEq a b && Nat.beq n m && Nat.beq c d
  | _, .map none, .map none => true
  | _, .map (some a), .map (some b) => Nat.beq a b
  | _, .nilFunc, .nilFunc => true
  | _, .nilIface, .nilIface => true
  | _, .complex .f64 a b, .complex .f64 c d => Nat.beq a c && Nat.beq b d
  | k + 1, .func (.func f) a x, .func (.func g) b y => Nat.beq f g && listEq (valEq k) a.toList b.toList && listEq (valEq k) x.toList y.toList
  | k + 1, .func (.yield f) a x, .func (.yield g) b y => Nat.beq f g && listEq (valEq k) a.toList b.toList && listEq (valEq k) x.toList y.toList
  | k + 1, .iface s x, .iface u y => Nat.beq s u && valEq k x y
  | k + 1, .agg x, .agg y => listEq (valEq k) x.toList y.toList
  | k + 1, .tuple x, .tuple y => listEq (valEq k) x.toList y.toList
  | _, _, _ => false

theorem strEq {a b : ByteArray} (h : (a.data.toList == b.data.toList) = true) : a = b := by
  have := Array.toList_inj.1 (eq_of_beq h)
  cases a; cases b
  simp_all

theorem valEq_ok : ∀ (k : Nat) (x y : Value), valEq k x y = true → x = y := by
  intro k
  induction k with
  | zero =>
    intro x y h
    unfold valEq at h
    split at h <;> first | (cases h; done) | rfl | skip
    all_goals first
      | (simp at h; simp [h]; done)
      | (rw [addrEq_ok h]; done)
      | (simp only [Bool.and_eq_true] at h; rw [addrEq_ok h.1.1, Nat.eq_of_beq_eq_true h.1.2, Nat.eq_of_beq_eq_true h.2]; done)
      | (rw [Nat.eq_of_beq_eq_true h]; done)
      | (rw [strEq h]; done)
      | (exact absurd ‹0 = Nat.succ _› (by omega))
  | succ k ih =>
    intro x y h
    unfold valEq at h
    split at h <;> first | (cases h; done) | rfl | skip
    all_goals try (have e := Nat.succ.inj ‹k + 1 = Nat.succ _›; subst e)
    all_goals first
      | (simp only [Bool.and_eq_true] at h; rw [Nat.eq_of_beq_eq_true h.1.1, Array.toList_inj.1 (listEq_ok ih _ _ h.1.2), Array.toList_inj.1 (listEq_ok ih _ _ h.2)]; done)
      | (simp only [Bool.and_eq_true] at h; rw [Nat.eq_of_beq_eq_true h.1, ih _ _ h.2]; done)
      | (rw [Array.toList_inj.1 (listEq_ok ih _ _ h)]; done)
      | (rw [addrEq_ok h]; done)
      | (simp only [Bool.and_eq_true] at h; rw [addrEq_ok h.1.1, Nat.eq_of_beq_eq_true h.1.2, Nat.eq_of_beq_eq_true h.2]; done)
      | (rw [Nat.eq_of_beq_eq_true h]; done)
      | (rw [strEq h]; done)
      | (simp at h; simp [h]; done)
      | skip

end Ev
end Go.Proofs.YtgidmgkebkodoaaGreatDoor
