/- A run on closed data, reckoned by the kernel, 11: the reckoner itself, frame by frame. -/
import Derived.Test.YtgidmgkebkodoaaGreatDoorEv10
set_option linter.unusedSimpArgs false
set_option linter.unusedVariables false
set_option linter.unusedSectionVars false
namespace Go.Proofs.YtgidmgkebkodoaaGreatDoor
open Go.RowKit
namespace Ev
variable [Vars]
noncomputable section

/-- What a run comes to: a value, memory, the first free name; or where it can't be reckoned. -/
abbrev Out := Except String (Value × Tr × Nat)
def addrSame : Option Addr → Option Addr → Bool
  | none, none => true
  | some ⟨b, o, none⟩, some ⟨c, p, none⟩ => Nat.beq b c && Nat.beq o p
  | _, _ => false
/-- Values of cells, compared. -/
def sameV : Nat → Value → Value → Bool
  | _, .bool a, .bool b => a == b
  | _, .int j a, .int k b => j == k && a == b
  | _, .string a, .string b => a.data.toList == b.data.toList
  | _, .pointer a, .pointer b => addrSame a b
  | _, .slice a n c, .slice b m d => addrSame a b && Nat.beq n m && Nat.beq c d
  | _, .map none, .map none => true
  | _, .map (some a), .map (some b) => Nat.beq a b
  | _, .nilFunc, .nilFunc => true
  | _, .nilIface, .nilIface => true
  | _, _, _ => false
theorem addrSame_ok {a b : Option Addr} (h : addrSame a b = true) : a = b := by
  unfold addrSame at h
  split at h
  · rfl
  · simp only [Bool.and_eq_true] at h
    rw [Nat.eq_of_beq_eq_true h.1, Nat.eq_of_beq_eq_true h.2]
  · cases h
theorem bytes_eq {a b : ByteArray} (h : (a.data.toList == b.data.toList) = true) : a = b := by
  have := Array.toList_inj.1 (eq_of_beq h)
  cases a; cases b
  simp_all
theorem sameV_ok {k : Nat} {x y : Value} (h : sameV k x y = true) : x = y := by
  unfold sameV at h
  split at h <;> first | (cases h; done) | rfl | skip
  all_goals first
    | (rw [addrSame_ok h]; done)
    | (simp only [Bool.and_eq_true] at h; rw [addrSame_ok h.1.1, Nat.eq_of_beq_eq_true h.1.2, Nat.eq_of_beq_eq_true h.2]; done)
    | (rw [Nat.eq_of_beq_eq_true h]; done)
    | (rw [bytes_eq h]; done)
    | (simp at h; simp [h]; done)

/-- The rest of a frame's run, out of a shorter one: function, round, slots, what is to do, marks, memory, first free name. -/
abbrev Rec := FuncId → Option Nat → List Value → List Item → List Nat → Tr → Nat → Out

/-! lists, looked into and changed by few steps of the kernel's -/
noncomputable def getF {α : Type} (l : List α) : Nat → Option α := List.rec (motive := fun _ => Nat → Option α) (fun _ => none) (fun a _ ih i => Nat.rec (motive := fun _ => Option α) (some a) (fun n _ => ih n) i) l
theorem getF_eq {α : Type} : ∀ (l : List α) (i : Nat), getF l i = l[i]?
  | [], _ => rfl
  | _ :: _, 0 => rfl
  | a :: l, i + 1 => by
    show getF l i = _
    rw [getF_eq l i]; simp
noncomputable def setF {α : Type} (l : List α) : Nat → α → List α := List.rec (motive := fun _ => Nat → α → List α) (fun _ _ => []) (fun a t ih i v => Nat.rec (motive := fun _ => List α) (v :: t) (fun n _ => a :: ih n v) i) l
theorem setF_eq {α : Type} : ∀ (l : List α) (i : Nat) (v : α), setF l i v = l.set i v
  | [], _, _ => rfl
  | _ :: _, 0, _ => rfl
  | a :: l, i + 1, v => by
    show a :: setF l i v = _
    rw [setF_eq l i v]; rfl
/-- The same, whole, for what comes behind. -/
noncomputable def setK {α R : Type} (l : List α) : Nat → α → (List α → R) → R :=
  List.rec (motive := fun _ => Nat → α → (List α → R) → R) (fun _ _ k => k []) (fun a t ih i v k => Nat.rec (motive := fun _ => R) (k (v :: t)) (fun n _ => ih n v (fun u => k (a :: u))) i) l
theorem setK_eq {α R : Type} : ∀ (l : List α) (i : Nat) (v : α) (k : List α → R), setK l i v k = k (l.set i v)
  | [], _, _, _ => rfl
  | _ :: _, 0, _, _ => rfl
  | a :: l, i + 1, v, k => by
    show setK l i v (fun u => k (a :: u)) = _
    rw [setK_eq l i v]; rfl

def envV (ts : List Value) : Env
  | .tmp i => getF ts i
  | .const v => bif plain 3 v then some v else none
  | .global g => bif Vars.on then some (.complex .f64 g 2) else none
  | .func f => some (.func (.func f) #[] #[])

def wantedV (ops : List Oper) (ts : List Value) (o : Oper) : Bool :=
  match o.guard with
  | none => true
  | some (j, want) => match (getF ops j).bind (·.dst) with
    | some d => match getF ts d with
      | some (.bool b) => b == want
      | _ => false
    | none => false

def putV (ts : List Value) (d : Option Tmp) (v : Value) : List Value :=
  match d with
  | some d => setF ts d v
  | none => ts
def putK {R : Type} (ts : List Value) (d : Option Tmp) (v : Value) (k : List Value → R) : R :=
  match d with
  | some d => setK ts d v k
  | none => k ts
theorem putK_eq {R : Type} (ts : List Value) (d : Option Tmp) (v : Value) (k : List Value → R) : putK ts d v k = k (putV ts d v) := by
  unfold putK putV
  cases d with
  | none => rfl
  | some d =>
    show setK ts d v k = k (setF ts d v)
    rw [setK_eq, setF_eq]

def chk (n : Nat) (x : Out) : Out :=
  match x with
  | .ok (v, t, m) => bif Nat.ble n m then .ok (v, t, m) else .error "names"
  | .error e => .error e

section
variable (P : Program) (F : Book) (ih : Rec)

def evCall (g : FuncId) (args : List Value) (t : Tr) (n : Nat) : Out :=
  match F g with
  | some row => match row.ovl with
    | none => bif row.sure && args.isEmpty then .ok (.bool true, t, n) else ih g none (args ++ List.replicate (row.ntmps - args.length) undef) [.code row.body] [] t n
    | some _ => .error "overlaps"
  | none => .error "no such function"

/-- Are all addresses in a value such? -/
def idsOK (ok : Nat → Bool) : Nat → Value → Bool
  | _, .bool _ | _, .int _ _ | _, .string _ | _, .pointer none | _, .slice none _ _ | _, .map none | _, .nilFunc | _, .nilIface => true
  | _, .pointer (some a) => ok a.block
  | _, .slice (some a) _ _ => ok a.block
  | _, .map (some r) => ok r
  | f + 1, .func (.func _) _ cs => cs.toList.all (idsOK ok f)
  | f + 1, .iface _ v => idsOK ok f v
  | f + 1, .agg cs => cs.toList.all (idsOK ok f)
  | f + 1, .tuple cs => cs.toList.all (idsOK ok f)
  | _, .complex .f64 _ n => Nat.beq n 1 || Nat.beq n 2
  | _, _ => false

def listSame : List Value → List Value → Bool
  | [], [] => true
  | x :: xs, y :: ys => sameV 6 x y && listSame xs ys
  | _, _ => false

/-- slices.Insert of one element into a row of which it isn't known how much room it has: both ways, and what is common. -/
def evIns (g : FuncId) (args : List Value) (t : Tr) (n : Nat) : Out :=
  match args with
  | [.slice (some ⟨b, o, none⟩) k c, i, .slice (some ⟨bv, ov, none⟩) kv cv] =>
    match t.mem b, t.mem bv with
    | some (.cells cs e (es + 1)), some (.cells vs ve ves) =>
      bif Nat.beq k c && Nat.beq (o + k * (es + 1)) cs.length && !(Nat.beq b bv) && Nat.blt b n && Nat.blt bv n && cs.all (idsOK (fun j => Nat.blt j n && !(Nat.beq j b)) 6) && vs.all (idsOK (fun j => Nat.blt j n && !(Nat.beq j b)) 6) && plain 1 i && Nat.blt b top && Nat.blt bv top then
        match chk n (evCall F ih g [.slice (some ⟨b, o, none⟩) k k, i, .slice (some ⟨bv, ov, none⟩) kv cv] (Tr.set 24 (Tr.set 24 .nil b (some (.cells cs e 0))) bv (some (.cells vs ve ves))) n),
            chk n (evCall F ih g [.slice (some ⟨b, o, none⟩) k (k + 1), i, .slice (some ⟨bv, ov, none⟩) kv cv] (Tr.set 24 (Tr.set 24 .nil b (some (.cells cs e (es + 1)))) bv (some (.cells vs ve ves))) n) with
        | .ok (.slice (some ⟨j, jo, none⟩) k1 c1, t1, n1), .ok (.slice (some ⟨b2, o2, none⟩) k2 c2, t2, n2) =>
          match t1.mem j, t2.mem b with
          | some (.cells d1 e1 es1), some (.cells d2 e2 es2) =>
            bif Nat.ble n j && Nat.beq jo 0 && Nat.beq k1 (k + 1) && Nat.beq k2 (k + 1) && Nat.beq b2 b && Nat.beq o2 o && Nat.beq e1 e && Nat.beq e2 e && Nat.beq es1 (es + 1) && Nat.beq es2 (es + 1) && Nat.ble (k + 1) c1 && Nat.ble (k + 1) c2 &&
                Nat.beq d1.length ((k + 1) * (es + 1)) && Nat.ble o d2.length && listSame d1 (d2.drop o) && d1.all (idsOK (fun j => Nat.blt j n && !(Nat.beq j b)) 6) && Nat.blt (Nat.max n1 n2) top then
              .ok (.slice (some ⟨Nat.max n1 n2, 0, none⟩) (k + 1) (k + 1), Tr.set 24 (Tr.set 24 (Tr.set 24 t b none) bv none) (Nat.max n1 n2) (some (.cells d1 e (es + 1))), Nat.max n1 n2 + 1)
            else .error "insert: unlike"
          | _, _ => .error "insert: blocks"
        | .error e, _ => .error e
        | _, .error e => .error e
        | _, _ => .error "insert: results"
      else .error "insert: not so"
    | _, _ => evCall F ih g args t n
  | _ => evCall F ih g args t n

def setAll : List Tmp → List Value → List Value → List Value
  | p :: ps, v :: vs, ts => setAll ps vs (ts.set p v)
  | _, _, ts => ts

def evYield (r : Env) (o : Oper) (t : Tr) (n : Nat) : Out :=
  match o.op with
  | .call c => match c.callee with
    | .value f => match r f, envAll r c.args.toList with
      | some (.func (.yield l) _ _), some args => match t.mem l with
        | some (.loop lp) => bif Nat.beq args.length lp.params.toList.length then
            ih lp.fn (some l) (setAll lp.params.toList args lp.tmps.toList) [.code lp.assign, .beginRound, .code lp.body] [] t n
          else .error "yield"
        | _ => .error o.pos
      | _, _ => .error o.pos
    | _ => .error o.pos
  | _ => .error o.pos

def evOp (r : Env) (o : Oper) (t : Tr) (n : Nat) : Out :=
  match ev1 P F r o t n with
  | some (.val v t' n') => .ok (v, t', n')
  | some (.call g args) => match F g with
    | some row => bif row.ins then evIns F ih g args t n else evCall F ih g args t n
    | none => .error "no such function"
  | none => evYield ih r o t n

def evSeq (ops : List Oper) : List Oper → List Value → Tr → Nat → Except String (List Value × Tr × Nat)
  | [], ts, t, n => .ok (ts, t, n)
  | o :: rest, ts, t, n =>
    bif wantedV ops ts o then
      match chk n (evOp P F ih (envV ts) o t n) with
      | .ok (v, t', n') => evSeq ops rest (putV ts o.dst v) t' n'
      | .error e => .error e
    else evSeq ops rest (putV ts o.dst undef) t n

def resV (t : Tr) (ts : List Value) : List ResultVar → Option (List Value)
  | [] => some []
  | .tmp i :: rs => match resV t ts rs with
    | some vs => some (ts.getD i undef :: vs)
    | none => none
  | .cell a ty :: rs => match loadV P t ty (ts.getD a undef), resV t ts rs with
    | some v, some vs => some (v :: vs)
    | _, _ => none

def oneV : List Value → Value
  | [v] => v
  | vs => .tuple vs.toArray

/-- The marks of range loops are taken. -/
def takeV : List Nat → Tr → Option Tr
  | [], t => some t
  | r :: rs, t => match t.mem r with
    | some (.defs (some [])) => bif Nat.blt r top then takeV rs (Tr.set 24 t r (some (.defs none))) else none
    | _ => none

/-- The frame is left. -/
def leaveV (fid : FuncId) (rnd : Option Nat) (ts : List Value) (jump : Option Code) (dfs : List Nat) (t : Tr) (n : Nat) : Out :=
  match rnd with
  | none => match F fid, takeV dfs t with
    | some row, some t' => bif row.ovl.isSome then .error "leave" else match resV P t' ts row.results with
      | some vs => .ok (oneV vs, t', n)
      | none => .error "results"
    | _, _ => .error "leave"
  | some l => match t.mem l, dfs with
    | some (.loop lp), [] => bif Nat.blt l top then .ok (.bool jump.isNone, Tr.set 24 t l (some (.loop { lp with state := if jump.isNone then .ready else .done, pending := jump })), n) else .error "round"
    | _, _ => .error "round"

def evRange (fid : FuncId) (rnd : Option Nat) (ts : List Value) (f : Operand) (params : Array Tmp) (assign body : Code) (k : List Item) (dfs : List Nat) (t : Tr) (n : Nat) : Out :=
  match envV ts f with
  | some (.func (.func g) _ caps) =>
    match rnd with
    | none =>
      bif Nat.blt (n + 1) top then
        match chk (n + 2) (evCall F ih g (.func (.yield (n + 1)) #[] #[] :: caps.toList)
            (Tr.set 24 (Tr.set 24 t n (some (.defs (some [])))) (n + 1) (some (.loop { state := .ready, pending := none, fn := fid, tmps := ts.toArray, params, assign, body, defers := n }))) (n + 2)) with
        | .ok (_, t', n') => match t'.mem (n + 1) with
          | some (.loop lp) => bif lp.state == .busy then .error "busy" else
              ih fid rnd ts ((lp.pending.map Item.code).toList ++ k) (n :: dfs) (Tr.set 24 t' (n + 1) (some (.loop { lp with state := .exhausted }))) n'
          | _ => .error "range over a function"
        | .error e => .error e
      else .error "names"
    | some l => match t.mem l with
      | some (.loop lp0) =>
        bif Nat.blt n top then
          match chk (n + 1) (evCall F ih g (.func (.yield n) #[] #[] :: caps.toList)
              (Tr.set 24 t n (some (.loop { state := .ready, pending := none, fn := fid, tmps := ts.toArray, params, assign, body, defers := lp0.defers }))) (n + 1)) with
          | .ok (_, t', n') => match t'.mem n with
            | some (.loop lp) => bif lp.state == .busy then .error "busy" else
                ih fid rnd ts ((lp.pending.map Item.code).toList ++ k) dfs (Tr.set 24 t' n (some (.loop { lp with state := .exhausted }))) n'
            | _ => .error "range over a function"
          | .error e => .error e
        else .error "names"
      | _ => .error "range over a function"
  | _ => .error "range over a function"

/-- A region that draws its order (below). -/
abbrev Drawn := Rec → List Oper → List Value → Tr → Nat → Except String (List Value × Tr × Nat)

def stepF (D : Drawn) : Rec := fun fid rnd ts todo dfs t n =>
  match todo with
  | [] => leaveV P F fid rnd ts none dfs t n
  | .code c :: k => match c with
    | .skip => ih fid rnd ts k dfs t n
    | .label _ => ih fid rnd ts k dfs t n
    | .ret => leaveV P F fid rnd ts (some .ret) dfs t n
    | .seq a b => ih fid rnd ts (.code a :: .code b :: k) dfs t n
    | .cond x a b => match envV ts x with
      | some (.bool true) => ih fid rnd ts (.code a :: k) dfs t n
      | some (.bool false) => ih fid rnd ts (.code b :: k) dfs t n
      | _ => .error "code"
    | .block l a => ih fid rnd ts (.code a :: .inBlock l :: k) dfs t n
    | .loop a => ih fid rnd ts (.code a :: .inLoop a :: k) dfs t n
    | .scope a => ih fid rnd ts (.code a :: .inScope a :: k) dfs t n
    | .exit l => match exitTo l k with
      | some k' => ih fid rnd ts k' dfs t n
      | none => match rnd with
        | some _ => leaveV P F fid rnd ts (some (.exit l)) dfs t n
        | none => .error "jump"
    | .goto l => match gotoIn l k with
      | some k' => ih fid rnd ts k' dfs t n
      | none => match rnd with
        | some _ => leaveV P F fid rnd ts (some (.goto l)) dfs t n
        | none => .error "jump"
    | .region _ ops false => match evSeq P F ih ops.toList ops.toList ts t n with
      | .ok (ts', t', n') => bif Nat.ble n n' then ih fid rnd ts' k dfs t' n' else .error "names"
      | .error e => .error e
    | .region _ ops true => match D ih ops.toList ts t n with
      | .ok (ts', t', n') => bif Nat.ble n n' then ih fid rnd ts' k dfs t' n' else .error "names"
      | .error e => .error e
    | .rangeFunc f params assign body => evRange F ih fid rnd ts f params assign body k dfs t n
    | .refuse _ => .error "refused"
  | .inBlock _ :: k => ih fid rnd ts k dfs t n
  | .inScope _ :: k => ih fid rnd ts k dfs t n
  | .inLoop a :: k => ih fid rnd ts (.code a :: .inLoop a :: k) dfs t n
  | .beginRound :: k => match rnd with
    | some l => match t.mem l with
      | some (.loop lp) => bif lp.state == .ready && Nat.blt l top then ih fid rnd ts k dfs (Tr.set 24 t l (some (.loop { lp with state := .busy }))) n else .error "round"
      | _ => .error "code"
    | none => .error "jump"
  | _ => .error "code"
end

def runF (P : Program) (F : Book) (D : Drawn) : Nat → Rec
  | 0 => fun _ _ _ _ _ _ _ => .error "fuel"
  | f + 1 => stepF P F (runF P F D f) D

end
end Ev
end Go.Proofs.YtgidmgkebkodoaaGreatDoor
