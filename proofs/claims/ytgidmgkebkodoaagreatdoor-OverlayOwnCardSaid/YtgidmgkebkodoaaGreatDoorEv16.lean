/- A run on closed data, reckoned by the kernel, 16: a region that draws its order, reckoned in one order, with what is asked for all of them. -/
import Derived.Test.YtgidmgkebkodoaaGreatDoorEv15
set_option linter.unusedSimpArgs false
set_option linter.unusedVariables false
set_option linter.unusedSectionVars false
namespace Go.Proofs.YtgidmgkebkodoaaGreatDoor
open Go.RowKit
namespace Ev
variable [Vars]
noncomputable section

def tmpsIn : List Operand → List Tmp
  | [] => []
  | .tmp t :: xs => t :: tmpsIn xs
  | _ :: xs => tmpsIn xs

/-- The slots at which an operation looks. -/
def tmpsOf (ops : List Oper) (o : Oper) : List Tmp :=
  match o.guard with
  | some (j, _) => match (ops[j]?).bind (·.dst) with
    | some d => d :: tmpsIn o.op.operands.toList
    | none => tmpsIn o.op.operands.toList
  | none => tmpsIn o.op.operands.toList

def memN : Nat → List Nat → Bool
  | _, [] => false
  | x, y :: ys => Nat.beq x y || memN x ys

def envO (ts : List Value) (tm : List Tmp) : Env
  | .tmp i => bif memN i tm then getF ts i else none
  | x => envV ts x

/-- Does it do more than reckon and read? -/
def isLoud (o : Oper) : Bool :=
  match o.op with
  | .call c => match c.callee with
    | .builtin .len | .builtin .cap | .builtin .min | .builtin .max => false
    | _ => true
  | .move _ | .assign _ | .pick .. | .alloc _ | .box .. | .build .. | .buildSlice .. | .load .. | .nilCheck _ | .binOp .. | .unOp .. | .convert .. | .makeInterface .. | .makeFunc .. | .slice .. | .fieldAddr .. | .field .. | .indexAddr .. | .index .. | .typeAssert .. | .extract .. | .lookup .. | .entry .. => false
  | _ => true

/-- Which operations come ahead of each: sets as numbers. -/
def edgeMask (acc : List Nat) : List Edge → Nat → Nat
  | [], s => s
  | e :: es, s => bif Region.binds .any e then edgeMask acc es (s ||| 2 ^ e.on ||| acc.getD e.on 0) else edgeMask acc es s
def ancs : List Oper → List Nat → List Nat
  | [], acc => acc
  | o :: os, acc => ancs os (acc ++ [edgeMask acc o.after.toList 0])

def loudMask : List Oper → Nat → Nat → Nat
  | [], _, s => s
  | o :: os, i, s => loudMask os (i + 1) (bif isLoud o then s ||| 2 ^ i else s)

def sub (a b : Nat) : Bool := Nat.beq (Nat.land a b) a

def dstIs (ops : List Oper) (x : Tmp) (j : Nat) : Bool :=
  match (ops[j]?).bind (·.dst) with
  | some d => Nat.beq d x
  | none => false

/-- All writers of a slot are ahead. -/
def writersIn (ops : List Oper) (m : Nat) (x : Tmp) : Nat → Bool
  | 0 => true
  | j + 1 => (!(dstIs ops x j) || Nat.testBit m j) && writersIn ops m x j

/-- All writers of a slot come behind. -/
def writersOut (ops : List Oper) (ms : List Nat) (i : Nat) (x : Tmp) : Nat → Bool
  | 0 => true
  | j + 1 => (!(dstIs ops x j) || Nat.testBit (ms.getD j 0) i) && writersOut ops ms i x j
/-- None of these wrote it. -/
def unwritten (ops : List Oper) (done : Nat) (x : Tmp) : Nat → Bool
  | 0 => true
  | j + 1 => (!(dstIs ops x j) || !(Nat.testBit done j)) && unwritten ops done x j

def edgesIn (done : Nat) : List Edge → Bool
  | [] => true
  | e :: es => (!(Region.binds .any e) || Nat.testBit done e.on) && edgesIn done es

/-- Is this an order that stands for all orders? -/
def ordOK (ops : List Oper) (ms : List Nat) (size : Nat) : List Nat → Nat → Bool
  | [], done => Nat.beq done (2 ^ size - 1)
  | i :: rest, done =>
    match ops[i]? with
    | none => false
    | some o =>
      Nat.blt i size && !(Nat.testBit done i) && edgesIn done o.after.toList && (!(isLoud o) || sub done (ms.getD i 0)) &&
      (tmpsOf ops o).all (fun x => (writersIn ops (ms.getD i 0) x size && (i :: rest).all (fun j => !(dstIs ops x j))) || (writersOut ops ms i x size && unwritten ops done x size)) &&
      (match o.dst with | some d => rest.all (fun j => !(dstIs ops d j)) | none => true) &&
      ordOK ops ms size rest (done ||| 2 ^ i)

def pickNeeded (size : Nat) (m : Nat) (done : Nat) : List Nat := (List.range size).filter fun j => Nat.testBit m j && !(Nat.testBit done j)
def maskOf : List Nat → Nat → Nat
  | [], s => s
  | i :: is, s => maskOf is (s ||| 2 ^ i)
def canonGo (size : Nat) (ms : List Nat) : List Nat → Nat → List Nat
  | [], done => pickNeeded size (2 ^ size - 1) done
  | l :: ls, done =>
    let need := pickNeeded size (ms.getD l 0) done ++ [l]
    need ++ canonGo size ms ls (maskOf need done)
def louds : List Oper → Nat → List Nat
  | [], _ => []
  | o :: os, i => bif isLoud o then i :: louds os (i + 1) else louds os (i + 1)
def canon (ops : List Oper) : List Nat := canonGo ops.length (ancs ops []) (louds ops 0) 0

/-- Where the reckoning of such a region stands. -/
structure DS where
  ts : List Value
  t : Tr
  n : Nat
  lm : Nat
  hist : List (Nat × Nat × Tr)
  news : List (Nat × Nat × VO) := []

section
variable (P : Program) (F : Book) (ih : Rec)

/-- Memory, and what operations that come ahead of this one have made, where it isn't there as yet. -/
def withNews (anc : Nat) (k : Nat) : List (Nat × Nat × VO) → Tr → Tr
  | [], t => t
  | (e, id, o) :: ns, t => bif Nat.testBit anc e && Nat.ble k id && Nat.blt id top then withNews anc k ns (Tr.set 24 t id (some o)) else withNews anc k ns t

def held (o : Oper) (tm : List Tmp) (ts : List Value) (anc lou : Nat) (news : List (Nat × Nat × VO)) (v : Value) : List (Nat × Nat × Tr) → Bool
  | [] => true
  | (m, k, t) :: hs => (!(sub (Nat.land anc lou) m) || (match evSame P (envO ts tm) (withNews anc k news t) o with | some u => valEq 60 u v | none => false)) && held o tm ts anc lou news v hs

/-- The value of a loud operation in such a region; and of a silent one. -/
def dstep (ops : List Oper) (ms : List Nat) (lou : Nat) (i : Nat) (S : DS) : Except String DS :=
  match ops[i]? with
  | none => .error "region"
  | some o =>
    let tm := tmpsOf ops o
    bif wantedV ops S.ts o then
      bif isNew o then
        match evNew P (envO S.ts tm) o with
        | some N => bif Nat.blt S.n top then
            let t' := Tr.set 24 S.t S.n (some (.cells N.cs N.e 0))
            .ok { ts := putV S.ts o.dst (N.sh.val S.n), t := t', n := S.n + 1, lm := S.lm, hist := (S.lm, S.n + 1, t') :: S.hist, news := (i, S.n, .cells N.cs N.e 0) :: S.news }
          else .error "names"
        | none => .error o.pos
      else bif isLoud o then
        match chk S.n (evOp P F ih (envO S.ts tm) o S.t S.n) with
        | .ok (v, t', n') => .ok { ts := putV S.ts o.dst v, t := t', n := n', lm := S.lm ||| 2 ^ i, hist := (S.lm ||| 2 ^ i, n', t') :: S.hist, news := S.news }
        | .error e => .error e
      else
        match evSame P (envO S.ts tm) S.t o with
        | some v => bif held P o tm S.ts (ms.getD i 0) lou S.news v S.hist then .ok { S with ts := putV S.ts o.dst v } else .error (o.pos ++ " (not held)")
        | none => .error o.pos
    else .ok { S with ts := putV S.ts o.dst undef, lm := bif isLoud o then S.lm ||| 2 ^ i else S.lm, hist := bif isLoud o then (S.lm ||| 2 ^ i, S.n, S.t) :: S.hist else S.hist }

def evDr (ops : List Oper) (ms : List Nat) (lou : Nat) : List Nat → DS → Except String DS
  | [], S => .ok S
  | i :: rest, S => match dstep P F ih ops ms lou i S with
    | .ok S' => evDr ops ms lou rest S'
    | .error e => .error e
end

/-- A region that draws its order. -/
def drawn (P : Program) (F : Book) : Drawn := fun ih ops ts t n =>
  bif ordOK ops (ancs ops []) ops.length (canon ops) 0 then
    match evDr P F ih ops (ancs ops []) (loudMask ops 0 0) (canon ops) { ts, t, n, lm := 0, hist := [(0, n, t)] } with
    | .ok S => .ok (S.ts, S.t, S.n)
    | .error e => .error e
  else .error (match ops with | o :: _ => o.pos ++ " (order)" | [] => "order")

end
end Ev
end Go.Proofs.YtgidmgkebkodoaaGreatDoor
