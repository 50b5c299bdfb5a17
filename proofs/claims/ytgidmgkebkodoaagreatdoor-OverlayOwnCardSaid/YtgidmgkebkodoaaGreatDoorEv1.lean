/- A run on closed data, reckoned by the kernel: the memory of such a run, under names of its own ('virtual' blocks), and how it lies in the machine's memory. -/
import Derived.Calls
import Derived.Laws.World
import Derived.Laws.Sem
import Derived.Below
import Derived.Lone
set_option linter.unusedSectionVars false
namespace Go.Proofs.YtgidmgkebkodoaaGreatDoor
open Go.RowKit
namespace Ev

/-- Where a virtual block lies: the block, the cell at which it begins, how many cells there are from there on, and (where an append made it) an element's size. -/
structure Pl where
  blk : Nat
  base : Nat
  avail : Nat
  es : Nat

abbrev Sg := Nat → Option Pl

/-- A variable's token, and the machine's value. -/
def conc (val : Nat → Value) : Value → Value
  | .complex .f64 k 1 => val k
  | .complex .f64 g 2 => .pointer (some ⟨g, 0, none⟩)
  | v => v

/-- The variables of a reckoning: values of one cell (integers, texts, and pointers and slices into blocks that are never written) that the kernel doesn't know, what these blocks hold, and what is known of operations at all of them. -/
class Vars where
  on : Bool
  val : Nat → Value
  one : ∀ k, (∃ j n, val k = .int j n) ∨ (∃ s, val k = .string s) ∨ (∃ a, val k = .pointer (some a)) ∨ ∃ a n c, val k = .slice (some a) n c
  ro : Nat → Option Obj
  fact : Program → Op → List Value → Option Value
  ok : ∀ (P : Program) (o : Oper) (ρ : Operand → Value) (vs : List Value) (v : Value) (w : World), fact P o.op vs = some v → (∀ b x, ro b = some x → w.heap[b]? = some x) →
    o.op.operands.toList.map ρ = vs.map (conc val) → (execOp ρ o).run P w = .ok (.value (conc val v)) w

/-- No variables. -/
@[reducible] def noVars : Vars := ⟨false, fun _ => .int .i64 0, fun _ => .inl ⟨_, _, rfl⟩, fun _ => none, fun _ _ _ => none, fun _ _ _ _ _ _ h => by cases h⟩
variable [Vars]

/-- A virtual value, and the machine's. -/
inductive VR (σ : Sg) : Value → Value → Prop where
  | bool (b : Bool) : VR σ (.bool b) (.bool b)
  | int (k : IntKind) (n : Int) : VR σ (.int k n) (.int k n)
  | string (s : ByteArray) : VR σ (.string s) (.string s)
  | ptr0 : VR σ (.pointer none) (.pointer none)
  | ptr (b o : Nat) (p : Pl) (h : σ b = some p) : VR σ (.pointer (some ⟨b, o, none⟩)) (.pointer (some ⟨p.blk, p.base + o, none⟩))
  | sl0 (n c : Nat) : VR σ (.slice none n c) (.slice none n c)
  | sl (b o n c c' : Nat) (p : Pl) (h : σ b = some p) (hc : c ≤ c') (hl : (p.es = 0 ∧ c' = c) ∨ (0 < p.es ∧ o + c' * p.es ≤ p.avail)) :
      VR σ (.slice (some ⟨b, o, none⟩) n c) (.slice (some ⟨p.blk, p.base + o, none⟩) n c')
  | map0 : VR σ (.map none) (.map none)
  | map (r : Nat) (p : Pl) (h : σ r = some p) : VR σ (.map (some r)) (.map (some p.blk))
  | func (f : FuncId) (cs cs' : Array Value) (hs : cs.size = cs'.size) (hv : ∀ i (h : i < cs.size) (h' : i < cs'.size), VR σ cs[i] cs'[i]) :
      VR σ (.func (.func f) #[] cs) (.func (.func f) #[] cs')
  | yield (l : Nat) (p : Pl) (h : σ l = some p) : VR σ (.func (.yield l) #[] #[]) (.func (.yield p.blk) #[] #[])
  | least (c c' : Nat) (h : c ≤ c') : VR σ (.complex .f64 c 0) (.int .i64 (c' : Int))
  | varI (k : Nat) (j : IntKind) (n : Int) (h : Vars.val k = .int j n) : VR σ (.complex .f64 k 1) (.int j n)
  | varS (k : Nat) (s : ByteArray) (h : Vars.val k = .string s) : VR σ (.complex .f64 k 1) (.string s)
  | varP (k : Nat) (a : Addr) (h : Vars.val k = .pointer (some a)) : VR σ (.complex .f64 k 1) (.pointer (some a))
  | varL (k : Nat) (a : Addr) (n c : Nat) (h : Vars.val k = .slice (some a) n c) : VR σ (.complex .f64 k 1) (.slice (some a) n c)
  | glob (g : Nat) : VR σ (.complex .f64 g 2) (.pointer (some ⟨g, 0, none⟩))
  | empty (k : Nat) (a : Addr) (c : Nat) : VR σ (.complex .f64 k 3) (.slice (some a) 0 c)
  | nilFunc : VR σ .nilFunc .nilFunc
  | nilIface : VR σ .nilIface .nilIface
  | iface (t : TypeId) (v v' : Value) (h : VR σ v v') : VR σ (.iface t v) (.iface t v')
  | agg (cs cs' : Array Value) (hs : cs.size = cs'.size) (hv : ∀ i (h : i < cs.size) (h' : i < cs'.size), VR σ cs[i] cs'[i]) : VR σ (.agg cs) (.agg cs')
  | tuple (cs cs' : Array Value) (hs : cs.size = cs'.size) (hv : ∀ i (h : i < cs.size) (h' : i < cs'.size), VR σ cs[i] cs'[i]) : VR σ (.tuple cs) (.tuple cs')

def Sg.le (σ τ : Sg) : Prop := ∀ i p, σ i = some p → τ i = some p
theorem Sg.le.refl (σ : Sg) : Sg.le σ σ := fun _ _ h => h
theorem Sg.le.trans {σ τ ρ : Sg} (a : Sg.le σ τ) (b : Sg.le τ ρ) : Sg.le σ ρ := fun _ _ h => b _ _ (a _ _ h)

theorem VR.mono {σ τ : Sg} {v v' : Value} (h : VR σ v v') (hl : Sg.le σ τ) : VR τ v v' := by
  induction h with
  | bool b => exact .bool b
  | int k n => exact .int k n
  | string s => exact .string s
  | ptr0 => exact .ptr0
  | ptr b o p h => exact .ptr b o p (hl _ _ h)
  | sl0 n c => exact .sl0 n c
  | sl b o n c c' p h hc hx => exact .sl b o n c c' p (hl _ _ h) hc hx
  | map0 => exact .map0
  | map r p h => exact .map r p (hl _ _ h)
  | func f cs cs' hs hv ih => exact .func f cs cs' hs ih
  | yield l p h => exact .yield l p (hl _ _ h)
  | least c c' h => exact .least c c' h
  | varI k j n h => exact .varI k j n h
  | varS k s h => exact .varS k s h
  | varP k a h => exact .varP k a h
  | varL k a n c h => exact .varL k a n c h
  | glob g => exact .glob g
  | empty k a c => exact .empty k a c
  | nilFunc => exact .nilFunc
  | nilIface => exact .nilIface
  | iface t v v' h ih => exact .iface t v v' ih
  | agg cs cs' hs hv ih => exact .agg cs cs' hs ih
  | tuple cs cs' hs hv ih => exact .tuple cs cs' hs ih

/-- The same, of lists. -/
def LR (σ : Sg) (xs ys : List Value) : Prop := xs.length = ys.length ∧ ∀ i (h : i < xs.length) (h' : i < ys.length), VR σ xs[i] ys[i]

section
variable {σ τ : Sg} {xs ys zs us : List Value} {v v' : Value}
theorem LR.mono (h : LR σ xs ys) (hl : Sg.le σ τ) : LR τ xs ys := ⟨h.1, fun i a b => (h.2 i a b).mono hl⟩
theorem LR.nil : LR σ [] [] := ⟨rfl, fun i h => by simp at h⟩
theorem LR.cons (h : VR σ v v') (hs : LR σ xs ys) : LR σ (v :: xs) (v' :: ys) := by
  refine ⟨by simp [hs.1], fun i a b => ?_⟩
  cases i with
  | zero => exact h
  | succ i => exact hs.2 i (by simpa using a) (by simpa using b)
theorem LR.head {y : Value} (h : LR σ (v :: xs) (y :: ys)) : VR σ v y := h.2 0 (by simp) (by simp)
theorem LR.tail {y : Value} (h : LR σ (v :: xs) (y :: ys)) : LR σ xs ys := ⟨by simpa using h.1, fun i a b => h.2 (i + 1) (by simpa using a) (by simpa using b)⟩
theorem LR.get? (h : LR σ xs ys) {i : Nat} (hx : xs[i]? = some v) : ∃ v', ys[i]? = some v' ∧ VR σ v v' := by
  obtain ⟨hi, he⟩ := List.getElem?_eq_some_iff.1 hx
  have hi' : i < ys.length := h.1 ▸ hi
  exact ⟨ys[i], List.getElem?_eq_getElem hi', he ▸ h.2 i hi hi'⟩
theorem LR.of_get? (hl : xs.length = ys.length) (h : ∀ (i : Nat) (x : Value), xs[i]? = some x → ∃ y, ys[i]? = some y ∧ VR σ x y) : LR σ xs ys := by
  refine ⟨hl, fun i a b => ?_⟩
  obtain ⟨y, hy, hr⟩ := h i xs[i] (List.getElem?_eq_getElem a)
  rw [List.getElem?_eq_getElem b] at hy
  cases hy
  exact hr
theorem LR.append (h : LR σ xs ys) (h' : LR σ zs us) : LR σ (xs ++ zs) (ys ++ us) := by
  refine LR.of_get? (by simp [h.1, h'.1]) fun i x hx => ?_
  rcases Nat.lt_or_ge i xs.length with hi | hi
  · rw [List.getElem?_append_left hi] at hx
    obtain ⟨y, hy, hr⟩ := h.get? hx
    exact ⟨y, by rw [List.getElem?_append_left (h.1 ▸ hi), hy], hr⟩
  · rw [List.getElem?_append_right hi] at hx
    obtain ⟨y, hy, hr⟩ := h'.get? hx
    exact ⟨y, by rw [List.getElem?_append_right (h.1 ▸ hi), ← h.1, hy], hr⟩
theorem LR.take (h : LR σ xs ys) (n : Nat) : LR σ (xs.take n) (ys.take n) := by
  refine LR.of_get? (by simp [h.1]) fun i x hx => ?_
  rw [List.getElem?_take] at hx
  split at hx
  · rename_i hi
    obtain ⟨y, hy, hr⟩ := h.get? hx
    exact ⟨y, by rw [List.getElem?_take, if_pos hi, hy], hr⟩
  · cases hx
theorem LR.drop (h : LR σ xs ys) (n : Nat) : LR σ (xs.drop n) (ys.drop n) := by
  refine LR.of_get? (by simp [h.1]) fun i x hx => ?_
  rw [List.getElem?_drop] at hx
  obtain ⟨y, hy, hr⟩ := h.get? hx
  exact ⟨y, by rw [List.getElem?_drop, hy], hr⟩
theorem LR.set (h : LR σ xs ys) (n : Nat) (hv : VR σ v v') : LR σ (xs.set n v) (ys.set n v') := by
  refine LR.of_get? (by simp [h.1]) fun i x hx => ?_
  rw [List.getElem?_set] at hx ⊢
  split at hx
  · rename_i he
    subst he
    split at hx
    · rename_i hl
      cases hx
      exact ⟨v', by simp [← h.1, hl], hv⟩
    · cases hx
  · rename_i he
    obtain ⟨y, hy, hr⟩ := h.get? hx
    exact ⟨y, by simp [he, hy], hr⟩
theorem LR.ofAgg {cs cs' : Array Value} (hs : cs.size = cs'.size) (hv : ∀ i (h : i < cs.size) (h' : i < cs'.size), VR σ cs[i] cs'[i]) : LR σ cs.toList cs'.toList :=
  ⟨by simpa using hs, fun i a b => by simpa using hv i (by simpa using a) (by simpa using b)⟩
theorem VR.mkAgg (h : LR σ xs ys) : VR σ (.agg xs.toArray) (.agg ys.toArray) := .agg _ _ (by simpa using h.1) fun i a b => by simpa using h.2 i (by simpa using a) (by simpa using b)
theorem VR.mkTuple (h : LR σ xs ys) : VR σ (.tuple xs.toArray) (.tuple ys.toArray) := .tuple _ _ (by simpa using h.1) fun i a b => by simpa using h.2 i (by simpa using a) (by simpa using b)
theorem VR.mkFunc (f : FuncId) (h : LR σ xs ys) : VR σ (.func (.func f) #[] xs.toArray) (.func (.func f) #[] ys.toArray) := .func f _ _ (by simpa using h.1) fun i a b => by simpa using h.2 i (by simpa using a) (by simpa using b)
theorem VR.cells (h : VR σ v v') : LR σ v.cells.toList v'.cells.toList := by
  cases h with
  | agg cs cs' hs hv => exact LR.ofAgg hs hv
  | ptr b o p h => exact LR.cons (.ptr b o p h) LR.nil
  | sl b o n c c' p h hc hx => exact LR.cons (.sl b o n c c' p h hc hx) LR.nil
  | map r p h => exact LR.cons (.map r p h) LR.nil
  | func f cs cs' hs hv => exact LR.cons (.func f cs cs' hs hv) LR.nil
  | yield l p h => exact LR.cons (.yield l p h) LR.nil
  | iface t v v' h => exact LR.cons (.iface t v v' h) LR.nil
  | tuple cs cs' hs hv => exact LR.cons (.tuple cs cs' hs hv) LR.nil
  | bool b => exact LR.cons (.bool b) LR.nil
  | int k n => exact LR.cons (.int k n) LR.nil
  | string s => exact LR.cons (.string s) LR.nil
  | ptr0 => exact LR.cons .ptr0 LR.nil
  | sl0 n c => exact LR.cons (.sl0 n c) LR.nil
  | map0 => exact LR.cons .map0 LR.nil
  | least c c' h => exact LR.cons (.least c c' h) LR.nil
  | varI k j n h => exact LR.cons (.varI k j n h) LR.nil
  | varS k s h => exact LR.cons (.varS k s h) LR.nil
  | varP k a h => exact LR.cons (.varP k a h) LR.nil
  | varL k a n c h => exact LR.cons (.varL k a n c h) LR.nil
  | glob g => exact LR.cons (.glob g) LR.nil
  | empty k a c => exact LR.cons (.empty k a c) LR.nil
  | nilFunc => exact LR.cons .nilFunc LR.nil
  | nilIface => exact LR.cons .nilIface LR.nil
theorem undef_rel : VR σ undef undef := .tuple #[] #[] rfl fun i h => by simp at h
end

/-- A value without addresses: the same in both. -/
def plain : Nat → Value → Bool
  | _, .bool _ | _, .int _ _ | _, .string _ | _, .pointer none | _, .slice none _ _ | _, .map none | _, .nilFunc | _, .nilIface => true
  | f + 1, .agg cs => cs.toList.all (plain f)
  | f + 1, .tuple cs => cs.toList.all (plain f)
  | f + 1, .iface _ v => plain f v
  | _, .func (.func _) a b => a.toList.isEmpty && b.toList.isEmpty
  | _, _ => false

theorem plain_rel {σ : Sg} : ∀ (f : Nat) (v : Value), plain f v = true → VR σ v v := by
  intro f
  induction f with
  | zero =>
    intro v h
    cases v with
    | bool b => exact .bool b
    | int k n => exact .int k n
    | string s => exact .string s
    | pointer a => cases a with | none => exact .ptr0 | some a => simp [plain] at h
    | slice a n c => cases a with | none => exact .sl0 n c | some a => simp [plain] at h
    | map r => cases r with | none => exact .map0 | some a => simp [plain] at h
    | nilFunc => exact .nilFunc
    | nilIface => exact .nilIface
    | func fn a b =>
      cases fn with
      | func g =>
        simp [plain] at h
        obtain ⟨rfl, rfl⟩ := h
        exact .func _ _ _ rfl fun i h => by simp at h
      | _ => simp [plain] at h
    | _ => simp [plain] at h
  | succ f ih =>
    intro v h
    cases v with
    | bool b => exact .bool b
    | int k n => exact .int k n
    | string s => exact .string s
    | pointer a => cases a with | none => exact .ptr0 | some a => simp [plain] at h
    | slice a n c => cases a with | none => exact .sl0 n c | some a => simp [plain] at h
    | map r => cases r with | none => exact .map0 | some a => simp [plain] at h
    | nilFunc => exact .nilFunc
    | nilIface => exact .nilIface
    | agg cs =>
      simp only [plain, List.all_eq_true] at h
      exact .agg cs cs rfl fun i a b => ih _ (h _ (by simp))
    | tuple cs =>
      simp only [plain, List.all_eq_true] at h
      exact .tuple cs cs rfl fun i a b => ih _ (h _ (by simp))
    | iface t v => exact .iface t v v (ih _ (by simpa [plain] using h))
    | func fn a b =>
      cases fn with
      | func g =>
        simp [plain] at h
        obtain ⟨rfl, rfl⟩ := h
        exact .func _ _ _ rfl fun i h => by simp at h
      | _ => simp [plain] at h
    | _ => simp [plain] at h

end Ev
end Go.Proofs.YtgidmgkebkodoaaGreatDoor
