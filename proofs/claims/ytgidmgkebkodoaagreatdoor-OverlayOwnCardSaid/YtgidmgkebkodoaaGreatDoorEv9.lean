/- A run on closed data, reckoned by the kernel, 9: one operation, whichever it is. -/
import Derived.Test.YtgidmgkebkodoaaGreatDoorEvIter
import Derived.Laws.BytesString
set_option linter.unusedSimpArgs false
set_option linter.unusedVariables false
set_option linter.unusedSectionVars false
namespace Go.Proofs.YtgidmgkebkodoaaGreatDoor
open Go.RowKit
namespace Ev
variable [Vars]

section
variable {P : Program} {F : Book} {o : Oper} {ρ : Operand → Value} {w : World} {σ : Sg} {t : Tr} {n : Nat} {r : Env}

/-- make([]T, len, cap) of so few. -/
def evMakeSlice (P : Program) (t : Tr) (n : Nat) (ty : TypeId) (l c : Value) : Option Nx :=
  match P.underlying ty, l, c with
  | some (.slice e), .int .i64 l, .int .i64 c => match P.info? e, sizeV P e, zeroV P e with
    | some i, some k, some zs =>
      bif decide (0 ≤ l) && decide (l ≤ c) && decide (c ≤ 1048576) && Nat.ble i.bytes 1048576 && Nat.blt n top && Nat.beq zs.length k then
        some (.val (.slice (some ⟨n, 0, none⟩) l.toNat c.toNat) (Tr.set 24 t n (some (.cells (repV zs (c.toNat * k)) e 0))) (n + 1))
      else none
    | _, _, _ => none
  | _, _, _ => none

theorem evMakeSlice_ok {ty : TypeId} {x y : Operand} {l c : Value} {z : Nx} (H : Holds σ t.mem w) (ho : o.op = .makeSlice ty x y) (hl : VR σ l (ρ x)) (hc : VR σ c (ρ y)) (h : evMakeSlice P t n ty l c = some z) : OpOK P o ρ w σ t.mem n z := by
  unfold evMakeSlice at h
  split at h
  case h_2 => cases h
  rename_i e l c hu
  split at h
  case h_2 => cases h
  rename_i i k zs hi hk hzs
  cases hcd : (decide (0 ≤ l) && decide (l ≤ c) && decide (c ≤ 1048576) && Nat.ble i.bytes 1048576 && Nat.blt n top && Nat.beq zs.length k) with
  | false => rw [hcd] at h; cases h
  | true =>
    rw [hcd, cond_true, Option.some.injEq] at h
    subst h
    simp only [Bool.and_eq_true, decide_eq_true_eq] at hcd
    obtain ⟨⟨⟨⟨⟨d1, d2⟩, d3⟩, d4⟩, d5⟩, d6⟩ := hcd
    have d4 := Nat.le_of_ble_eq_true d4
    have d5 : n < top := Nat.le_of_ble_eq_true d5
    have d6 := Nat.eq_of_beq_eq_true d6
    generalize hx : ρ x = lx at hl
    generalize hy : ρ y = cy at hc
    cases hl; cases hc
    obtain ⟨z, hz, hzc, hzl⟩ := zeroV_ok (w := w) (σ := σ) hzs
    have hpos : 0 < c.toNat * k → 0 < zs.length := fun hp => by rw [d6]; exact Nat.pos_of_mul_pos_left hp
    have hrl := repV_ok (σ := σ) hzl (c.toNat * k) hpos
    intro hf
    have hn0 := fresh_at hf (Nat.lt_succ_self n)
    refine ⟨_, _, _, by rw [Tr.mem_set d5]; exact Ext.row H hn0 hrl e, .sl n 0 _ _ _ _ Sg.put_same (Nat.le_refl _) (.inl ⟨rfl, rfl⟩), .inl ?_⟩
    have hbyt : (i.bytes : Int) * c ≤ 1048576 * 1048576 := by
      have h1 : (i.bytes : Int) ≤ 1048576 := by omega
      calc (i.bytes : Int) * c ≤ 1048576 * c := Int.mul_le_mul_of_nonneg_right h1 (by omega)
        _ ≤ 1048576 * 1048576 := Int.mul_le_mul_of_nonneg_left d3 (by omega)
    have hwl : IntKind.i64.wrap l = l := by rw [IntKind.wrap_i64]; omega
    have hwc : IntKind.i64.wrap c = c := by rw [IntKind.wrap_i64]; omega
    have hrun : (Instr.makeSlice ty (.int .i64 l) (.int .i64 c)).run P w = .ok (.slice (some ⟨w.heap.size, 0, none⟩) l.toNat c.toNat) (w.alloc (.cells (repV zs (c.toNat * k)).toArray e)) := by
      have hbig : ¬ ((decide (c < 0) || decide ((i.bytes : Int) * c > 2 ^ 48) || decide (l < 0) || decide (l > c)) = true) := by
        simp; omega
      have hti : (typeInfo e).run P w = .ok i w := by simp [typeInfo, hi]
      simp only [Instr.makeSlice, Sem.run_bind, run_underlying hu, Result.andThen_ok, asInt, asIntOf, Sem.run_pure, hti, hwl, hwc, Sem.run_ite, if_neg hbig, run_askRoom, run_sizeV hk]
      by_cases h0 : c.toNat * k = 0
      · rw [if_pos h0]
        have hrep : ((Array.range (c.toNat * k)).map (fun x => (#[] : Array Value)[x % (#[] : Array Value).size]!)) = (repV zs (c.toNat * k)).toArray := by
          rw [h0]; simp [repV]
        simp only [Sem.run_pure, Result.andThen_ok, hrep, newRow, Sem.run_bind, run_newObj]
        rfl
      · rw [if_neg h0]
        have hza : z.cells = zs.toArray := by rw [← hzc]
        simp only [Sem.run_bind, hz, Result.andThen_ok, Sem.run_pure, hza, repV_eq hpos, newRow, run_newObj]
        rfl
    have hex : execOp ρ o = (do pure (.value (← Instr.makeSlice ty (ρ x) (ρ y)))) := by
      unfold execOp; rw [ho]
    rw [hex, hx, hy, Sem.run_bind, hrun]
    simp only [Result.andThen_ok, Sem.run_pure, Nat.zero_add]

/-- string(b) of bytes in memory. -/
def bytesIn : List Value → Option (List Int)
  | [] => some []
  | .int .u8 n :: vs => match bytesIn vs with
    | some ns => some (n :: ns)
    | none => none
  | _ => none
theorem bytesIn_ok : ∀ {vs ys : List Value} {ns : List Int}, bytesIn vs = some ns → LR σ vs ys → ys = ns.map (Value.int .u8)
  | [], [], ns, h, _ => by cases h; rfl
  | [], _ :: _, _, _, hl => by have := hl.1; simp at this
  | v :: vs, [], _, _, hl => by have := hl.1; simp at this
  | v :: vs, y :: ys, ns, h, hl => by
    unfold bytesIn at h
    split at h
    · rename_i he; cases he
    · rename_i n vs' he
      injection he with h1 h2
      subst h1; subst h2
      split at h
      case h_2 => cases h
      rename_i ns' hns
      cases h
      have hh := hl.head
      cases hh
      rw [bytesIn_ok hns hl.tail]
      rfl
    · cases h
def strOf (ns : List Int) : ByteArray := ⟨(ns.map fun n => UInt8.ofNat n.toNat).toArray⟩
theorem foldl_push : ∀ (ns : List Int) (a : ByteArray), ns.foldl (fun r n => r.push (UInt8.ofNat n.toNat)) a = ⟨a.data ++ (ns.map fun n => UInt8.ofNat n.toNat).toArray⟩
  | [], a => by simp
  | n :: ns, a => by
    rw [List.foldl_cons, foldl_push ns]
    congr 1
    apply Array.ext'
    simp [ByteArray.data_push]
def evBytesStr (P : Program) (t : Tr) (src dst : TypeId) (x : Value) : Option Value :=
  match P.underlying src, P.underlying dst, x with
  | some (.slice e), some .string, .slice (some ⟨b, o, none⟩) k _ => match P.underlying e, t.mem b with
    | some (.int .u8), some (.cells cs _ _) => bif Nat.ble (o + k) cs.length then
        match bytesIn ((cs.drop o).take k) with
        | some ns => some (.string (strOf ns))
        | none => none
      else none
    | _, _ => none
  | _, _, _ => none
theorem evBytesStr_ok {src dst : TypeId} {x x' v : Value} (H : Holds σ t.mem w) (hx : VR σ x x') (h : evBytesStr P t src dst x = some v) : ∃ v', VR σ v v' ∧ (convert src dst x').run P w = .ok v' w := by
  unfold evBytesStr at h
  split at h
  case h_2 => cases h
  rename_i e b o k c hs hd
  split at h
  case h_2 => cases h
  rename_i cs ce ces he hb
  cases hc : Nat.ble (o + k) cs.length with
  | false => rw [hc] at h; cases h
  | true =>
    rw [hc, cond_true] at h
    split at h
    case h_2 => cases h
    rename_i ns hns
    cases h
    cases hx with
    | sl b o n c c' p hp hcc hl =>
    obtain ⟨ys, h1, h2, h3⟩ := rangeLR H hb hp (Nat.le_of_ble_eq_true hc)
    have hys := bytesIn_ok hns h1
    have hl := run_loadCells_list (P := P) w ⟨p.blk, p.base + o, none⟩ ys (fun j v hv => by rw [Addr.add_mid]; exact h3 j v hv)
    rw [h2, hys] at hl
    refine ⟨_, .string _, ?_⟩
    rw [run_convert_bytes_string w src dst e _ k c' hs he hd, run_bytesToString w _ k c' ns hl, foldl_push]
    simp [strOf]

/-- cap(s). -/
def evCap (P : Program) (t : Tr) (ty : TypeId) (x : Value) : Option Value :=
  match P.underlying ty, x with
  | some (.slice _), .slice none _ c => some (.int .i64 (c : Int))
  | some (.slice _), .slice (some ⟨b, _, none⟩) _ c => match t.mem b with
    | some (.cells _ _ 0) => some (.int .i64 (c : Int))
    | some (.cells _ _ _) => some (.complex .f64 c 0)
    | _ => none
  | _, _ => none
theorem evCap_ok {ty t2 : TypeId} {x x' v : Value} (H : Holds σ t.mem w) (hx : VR σ x x') (h : evCap P t ty x = some v) : ∃ v', VR σ v v' ∧ (Builtin.cap_ #[ty] t2 #[x']).run P w = .ok v' w := by
  have hg0 : (#[ty] : Array TypeId)[0]? = some ty := rfl
  have ha0 : (#[x'] : Array Value)[0]? = some x' := rfl
  unfold evCap at h
  split at h
  · rename_i e k c hu
    cases h
    cases hx
    exact ⟨_, .int _ _, by simp only [Builtin.cap_, hg0, ha0, Sem.run_bind, run_underlying hu, Result.andThen_ok, Sem.run_pure]; rfl⟩
  · rename_i e b o k c hu
    cases hx with
    | sl b o n c c' p hp hcc hl =>
    have hrun : (Builtin.cap_ #[ty] t2 #[.slice (some ⟨p.blk, p.base + o, none⟩) k c']).run P w = .ok (.int .i64 (c' : Int)) w := by
      have ha0 : (#[Value.slice (some ⟨p.blk, p.base + o, none⟩) k c'] : Array Value)[0]? = some (.slice (some ⟨p.blk, p.base + o, none⟩) k c') := rfl
      simp only [Builtin.cap_, hg0, ha0, Sem.run_bind, run_underlying hu, Result.andThen_ok, Sem.run_pure]; rfl
    split at h
    · rename_i cs e2 hb
      cases h
      obtain ⟨q, arr, fz, q1, q2, q3, q4, q5, q6, q7⟩ := H.cells hb
      rw [hp] at q1; cases q1
      have : c' = c := by
        rcases hl with h | h
        · exact h.2
        · omega
      subst this
      exact ⟨_, .int _ _, hrun⟩
    · cases h
      exact ⟨_, .least c c' hcc, hrun⟩
    · cases h
  · cases h

/-- a > b where of b the least is known. -/
def gtrV (op : BinOp) (a b : Value) : Option Value :=
  match op, a, b with
  | .gtr, .int .i64 x, .complex .f64 c 0 => bif decide (x ≤ (c : Int)) then some (.bool false) else none
  | _, _, _ => none
theorem gtrV_ok {op : BinOp} {ty : TypeId} {a b a' b' v : Value} {x y : Operand} (ha : VR σ a a') (hb : VR σ b b') (h : gtrV op a b = some v) : ∃ v', VR σ v v' ∧ (do eqGuard op ty x y a' b'; binOp op ty a' b' : Sem Value).run P w = .ok v' w := by
  unfold gtrV at h
  split at h
  · rename_i x c
    cases hc : decide (x ≤ (c : Int)) with
    | false => rw [hc] at h; cases h
    | true =>
      rw [hc, cond_true, Option.some.injEq] at h
      subst h
      have hc := of_decide_eq_true hc
      cases ha
      cases hb with
      | least c c' hcc =>
      refine ⟨.bool false, .bool _, ?_⟩
      have : ¬ (x > (c' : Int)) := by omega
      simp [eqGuard, binOp, Op.intCmp, Sem.run_bind]
      omega
  · cases h

/-- What an operation comes to that leaves memory as it is. -/
def evSame0 (P : Program) (r : Env) (t : Tr) (o : Oper) : Option Value :=
  match o.op with
  | .move x | .assign x => r x
  | .pick c a b => match r c with
    | some (.bool true) => r a
    | some (.bool false) => r b
    | _ => none
  | .build ty ps => evBuild P r ty ps.toList
  | .load ty a => match r a with
    | some a => loadV P t ty a
    | none => none
  | .nilCheck x => match r x with
    | some (.pointer (some a)) => some (.pointer (some a))
    | some (.func (.func f) a b) => some (.func (.func f) a b)
    | _ => none
  | .binOp op ty x y _ => match evPlain P r o with
    | some v => some v
    | none => match r x, r y with
      | some a, some b => match gtrV op a b with
        | some v => some v
        | none => match op, eqV P t ty a b with
          | .eql, some c => some (.bool c)
          | .neq, some c => some (.bool (!c))
          | _, _ => none
      | _, _ => none
  | .makeFunc (.func f) first caps => match first.toList, envAll r caps.toList with
    | [], some vs => some (.func (.func f) #[] vs.toArray)
    | _, _ => none
  | .makeInterface ty x => match P.underlying ty, r x with
    | some (.interface _), _ => none
    | some _, some v => some (.iface ty v)
    | _, _ => none
  | .slice ty x lo hi mx => match evPlain P r o with
    | some v => some v
    | none => match r x with
      | some v => evSlice P r t ty v lo hi mx
      | none => none
  | .fieldAddr ty x f => match r x with
    | some v => evFieldAddr P ty v f
    | none => none
  | .field ty x f => match r x with
    | some v => evField P ty v f
    | none => none
  | .indexAddr ty x ix => match r x, r ix with
    | some v, some i => evIndexAddr P ty v i
    | _, _ => none
  | .extract x i => match r x with
    | some v => evExtract v i
    | none => none
  | .call c => match c.callee with
    | .builtin .len => match c.args.toList, c.argTypes.toList with
      | [x], [ty] => match r x with
        | some (.slice a k _) => match P.underlying ty with
          | some (.slice _) => some (.int .i64 (k : Int))
          | _ => none
        | some (.map (some m)) => match P.underlying ty, t.mem m with
          | some (.map _ _), some (.map l _) => some (.int .i64 (l.length : Int))
          | _, _ => none
        | some (.complex .f64 _ 3) => match P.underlying ty with
          | some (.slice _) => some (.int .i64 0)
          | _ => none
        | _ => evPlain P r o
      | _, _ => none
    | .builtin .cap => match c.args.toList, c.argTypes.toList with
      | [x], [ty] => match r x with
        | some v => evCap P t ty v
        | none => none
      | _, _ => none
    | .builtin .min => evPlain P r o
    | .builtin .max => evPlain P r o
    | _ => none
  | .convert src dst x => match evPlain P r o with
    | some v => some v
    | none => match r x with
      | some v => evBytesStr P t src dst v
      | none => none
  | .lookup ty x ix ok => match r x, r ix with
    | some a, some b => match evLookup P t ty a b ok with
      | some v => some v
      | none => evLookupP P t ty a b ok
    | _, _ => none
  | .entry x => match r x with
    | some v => evEntry t v
    | none => none
  | .unOp .. | .index .. | .typeAssert .. => evPlain P r o
  | _ => none

theorem pickB {β : Type} (b : Bool) (x y : β) : (if b = true then x else y) = bif b then x else y := by cases b <;> rfl

set_option maxHeartbeats 1000000 in
theorem evSame0_ok {v : Value} (H : Holds σ t.mem w) (hr : r.ok σ ρ) (h : evSame0 P r t o = some v) : ∃ v', VR σ v v' ∧ (execOp ρ o).run P w = .ok (.value v') w := by
  have hpl : evPlain P r o = some v → ∃ v', VR σ v v' ∧ (execOp ρ o).run P w = .ok (.value v') w := fun h => ⟨v, evPlain_ok hr h w⟩
  unfold evSame0 at h
  split at h
  · rename_i x ho; exact ⟨_, hr _ _ h, by simp [execOp, ho]⟩
  · rename_i x ho; exact ⟨_, hr _ _ h, by simp [execOp, ho]⟩
  · rename_i c a b ho
    split at h
    · rename_i hc
      have hc := hr _ _ hc
      generalize hx : ρ c = cx at hc
      cases hc
      exact ⟨_, hr _ _ h, by simp [execOp, ho, hx, asBool, Sem.run_bind]⟩
    · rename_i hc
      have hc := hr _ _ hc
      generalize hx : ρ c = cx at hc
      cases hc
      exact ⟨_, hr _ _ h, by simp [execOp, ho, hx, asBool, Sem.run_bind]⟩
    · cases h
  · rename_i ty ps ho
    obtain ⟨v', h1, h2⟩ := evBuild_ok (P := P) (w := w) hr h
    refine ⟨v', h1, ?_⟩
    have hex : execOp ρ o = (do pure (.value (← Instr.build ty (ps.map fun (x : Nat × Operand) => (x.1, ρ x.2))))) := by
      unfold execOp; rw [ho]
    rw [hex, Sem.run_bind, h2]; rfl
  · rename_i ty a ho
    split at h
    · rename_i av ha
      obtain ⟨v', h1, h2⟩ := loadV_ok H (hr _ _ ha) h
      exact ⟨v', h1, by simp [execOp, ho, Sem.run_bind, h2]⟩
    · cases h
  · rename_i x ho
    split at h
    · rename_i a hx
      cases h
      have hx := hr _ _ hx
      generalize hy : ρ x = y at hx
      cases hx with
      | ptr b o p hp => exact ⟨_, .ptr b o p hp, by simp [execOp, ho, hy]⟩
    · rename_i f a b hx
      cases h
      have hx := hr _ _ hx
      generalize hy : ρ x = y at hx
      cases hx with
      | func f cs cs' hs hv => exact ⟨.func (.func f) #[] cs', .func f _ cs' hs hv, by simp [execOp, ho, hy]⟩
    · cases h
  · rename_i op ty x y yt ho
    split at h
    · rename_i u hu; cases h; exact hpl hu
    · split at h
      · rename_i a b ha hb
        have ha := hr _ _ ha
        have hb := hr _ _ hb
        split at h
        · rename_i u hu
          cases h
          obtain ⟨v', h1, h2⟩ := gtrV_ok (P := P) (w := w) (ty := ty) (x := x) (y := y) ha hb hu
          have hex : execOp ρ o = (do pure (.value (← (do eqGuard op ty x y (ρ x) (ρ y); binOp op ty (ρ x) (ρ y))))) := by
            unfold execOp; rw [ho]
          exact ⟨v', h1, by rw [hex, Sem.run_bind, h2]; rfl⟩
        have key : ∀ c, eqV P t ty a b = some c → (op = .eql → (execOp ρ o).run P w = .ok (.value (.bool c)) w) ∧ (op = .neq → (execOp ρ o).run P w = .ok (.value (.bool (!c))) w) := by
          intro c hc
          have hrun : (Op.equal ty (ρ x) (ρ y)).run P w = .ok c w := eqV_ok H ha hb hc 9999
          generalize hxa : ρ x = xa at ha hrun
          generalize hyb : ρ y = yb at hb hrun
          have hex : execOp ρ o = (do pure (.value (← (do eqGuard op ty x y (ρ x) (ρ y); binOp op ty (ρ x) (ρ y))))) := by
            unfold execOp; rw [ho]
          unfold eqV at hc
          constructor <;> intro hop <;> subst hop <;> rw [hex, hxa, hyb] <;> clear hex hxa hyb ho <;>
          (split at hc <;> first
            | (cases ha <;> cases hb <;> simp [eqGuard, binOp, Sem.run_bind, hrun]; done)
            | (cases hc; done))
        split at h
        · rename_i c hc _
          cases h
          exact ⟨_, .bool c, (key c hc).1 rfl⟩
        · rename_i c hc _
          cases h
          exact ⟨_, .bool _, (key c hc).2 rfl⟩
        · cases h
      · cases h
  · rename_i f first caps ho
    split at h
    · rename_i vs hfi hvs
      cases h
      have := envAll_ok hr _ _ hvs
      refine ⟨_, .mkFunc f this, ?_⟩
      have h1 : (caps.toList.map ρ).toArray = caps.map ρ := by apply Array.ext'; simp
      have h2 : first = #[] := by simpa using hfi
      subst h2
      rw [h1]
      simp [execOp, ho, Instr.makeFunc]
    · cases h
  · rename_i ty x ho
    split at h
    · cases h
    · rename_i d v hni hu hv
      cases h
      refine ⟨_, .iface ty _ _ (hr _ _ hv), ?_⟩
      have hex : execOp ρ o = (do pure (.value (← Instr.makeInterface ty (ρ x)))) := by unfold execOp; rw [ho]
      rw [hex, Sem.run_bind]
      have : (Instr.makeInterface ty (ρ x)).run P w = .ok (.iface ty (ρ x)) w := by
        simp only [Instr.makeInterface, Sem.run_bind, run_underlying hu, Result.andThen_ok]
        cases d <;> first | rfl | (exact absurd rfl (hni _))
      rw [this]; rfl
    · cases h
  · rename_i ty x lo hi mx ho
    split at h
    · rename_i u hu; cases h; exact hpl hu
    · split at h
      · rename_i v' hv
        obtain ⟨v'', h1, h2⟩ := evSlice_ok H hr (hr _ _ hv) h
        exact ⟨v'', h1, by simp [execOp, ho, Sem.run_bind, h2]⟩
      · cases h
  · rename_i ty x f ho
    split at h
    · rename_i u hu
      obtain ⟨v', h1, h2⟩ := evFieldAddr_ok (hr _ _ hu) h w
      exact ⟨v', h1, by simp [execOp, ho, Sem.run_bind, h2]⟩
    · cases h
  · rename_i ty x f ho
    split at h
    · rename_i u hu
      obtain ⟨v', h1, h2⟩ := evField_ok (hr _ _ hu) h w
      exact ⟨v', h1, by simp [execOp, ho, Sem.run_bind, h2]⟩
    · cases h
  · rename_i ty x ix ho
    split at h
    · rename_i u i hu hi
      obtain ⟨v', h1, h2⟩ := evIndexAddr_ok (hr _ _ hu) (hr _ _ hi) h w
      exact ⟨v', h1, by simp [execOp, ho, Sem.run_bind, h2]⟩
    · cases h
  · rename_i x i ho
    split at h
    · rename_i u hu
      obtain ⟨v', h1, h2⟩ := evExtract_ok (P := P) (hr _ _ hu) h w
      exact ⟨v', h1, by simp [execOp, ho, Sem.run_bind, h2]⟩
    · cases h
  · rename_i c ho
    split at h
    · rename_i hcal
      split at h
      case h_2 => cases h
      rename_i x ty hxa hta
      split at h
      · rename_i a k cc hx
        have hx := hr _ _ hx
        split at h
        · rename_i e hu
          cases h
          generalize hy : ρ x = y at hx
          refine ⟨.int .i64 k, .int _ _, ?_⟩
          have h1 : c.args = #[x] := by apply Array.ext'; simpa using hxa
          have h2 : c.argTypes = #[ty] := by apply Array.ext'; simpa using hta
          have hg0 : (#[ty] : Array TypeId)[0]? = some ty := rfl
          have ha0 : (#[y] : Array Value)[0]? = some y := rfl
          cases hx <;> simp [execOp, ho, hcal, h1, h2, hy, hg0, ha0, resolve, invoke, builtin, Builtin.len_, Sem.run_bind, run_underlying hu, goInt]
        · cases h
      · rename_i m hx
        have hx := hr _ _ hx
        split at h
        · rename_i kt et l cl hu hl
          cases h
          generalize hy : ρ x = y at hx
          have h1 : c.args = #[x] := by apply Array.ext'; simpa using hxa
          have h2 : c.argTypes = #[ty] := by apply Array.ext'; simpa using hta
          have hg0 : (#[ty] : Array TypeId)[0]? = some ty := rfl
          cases hx with
          | map m p hp =>
          obtain ⟨q, ob, k1, k2, k3⟩ := H.lies _ _ hl
          rw [hp] at k1; cases k1
          cases k3 with
          | map l l' k p hm =>
          have ha0 : (#[Value.map (some p.blk)] : Array Value)[0]? = some (.map (some p.blk)) := rfl
          refine ⟨.int .i64 l.length, .int _ _, ?_⟩
          simp [execOp, ho, hcal, h1, h2, hy, hg0, ha0, resolve, invoke, builtin, Builtin.len_, Sem.run_bind, run_underlying hu, goInt, MapKept.run_getObj_map k2, hm.length]
        · cases h
      · rename_i k hx
        have hx := hr _ _ hx
        split at h
        · rename_i e hu
          cases h
          generalize hy : ρ x = y at hx
          have h1 : c.args = #[x] := by apply Array.ext'; simpa using hxa
          have h2 : c.argTypes = #[ty] := by apply Array.ext'; simpa using hta
          have hg0 : (#[ty] : Array TypeId)[0]? = some ty := rfl
          have ha0 : (#[y] : Array Value)[0]? = some y := rfl
          refine ⟨.int .i64 0, .int _ _, ?_⟩
          cases hx; simp [execOp, ho, hcal, h1, h2, hy, hg0, resolve, invoke, builtin, Builtin.len_, Sem.run_bind, run_underlying hu, goInt]
        · cases h
      · exact hpl h
    · rename_i hcal
      split at h
      case h_2 => cases h
      rename_i x ty hxa hta
      split at h
      case h_2 => cases h
      rename_i xv hx
      obtain ⟨v', h1, h2⟩ := evCap_ok (P := P) (t2 := o.type) H (hr _ _ hx) h
      have h3 : c.args = #[x] := by apply Array.ext'; simpa using hxa
      have h4 : c.argTypes = #[ty] := by apply Array.ext'; simpa using hta
      exact ⟨v', h1, by simp [execOp, ho, hcal, h3, h4, resolve, invoke, builtin, Sem.run_bind, h2]⟩
    · exact hpl h
    · exact hpl h
    · cases h
  · rename_i src dst x ho
    split at h
    · rename_i u hu; cases h; exact hpl hu
    · split at h
      · rename_i u hu
        obtain ⟨v', h1, h2⟩ := evBytesStr_ok H (hr _ _ hu) h
        exact ⟨v', h1, by simp [execOp, ho, Sem.run_bind, h2]⟩
      · cases h
  · rename_i ty x ix ok ho
    split at h
    · rename_i u i hu hi
      split at h
      · rename_i v0 h0
        cases h
        obtain ⟨v', h1, h2⟩ := evLookup_ok (P := P) H (hr _ _ hu) (hr _ _ hi) h0
        exact ⟨v', h1, by simp [execOp, ho, Sem.run_bind, h2]⟩
      · obtain ⟨v', h1, h2⟩ := evLookupP_ok (P := P) H (hr _ _ hu) (hr _ _ hi) h
        exact ⟨v', h1, by simp [execOp, ho, Sem.run_bind, h2]⟩
    · cases h
  · rename_i x ho
    split at h
    · rename_i u hu
      obtain ⟨v', h1, h2⟩ := evEntry_ok (P := P) H (hr _ _ hu) h
      exact ⟨v', h1, by simp [execOp, ho, Sem.run_bind, h2]⟩
    · cases h
  all_goals first
    | exact hpl h
    | cases h

def numOp : Op → Bool
  | .binOp .. | .convert .. | .unOp .. | .call .. | .load .. | .indexAddr .. | .fieldAddr .. | .slice .. | .index .. => true
  | _ => false
/-- By what is known of the variables. -/
def factV (P : Program) (r : Env) (o : Oper) : Option Value :=
  bif Vars.on && numOp o.op then
    match envAll r o.op.operands.toList with
    | some vs => bif vs.all scal then
        match Vars.fact P o.op vs with
        | some v => bif scal v then some v else none
        | none => none
      else none
    | none => none
  else none
theorem factV_ok {v : Value} (H : Holds σ t.mem w) (hr : r.ok σ ρ) (h : factV P r o = some v) : ∃ v', VR σ v v' ∧ (execOp ρ o).run P w = .ok (.value v') w := by
  unfold factV at h
  cases hon : (Vars.on && numOp o.op) with
  | false => rw [hon] at h; cases h
  | true =>
  rw [hon, cond_true] at h
  split at h
  case h_2 => cases h
  rename_i vs hvs
  cases hs : vs.all scal with
  | false => rw [hs] at h; cases h
  | true =>
  rw [hs, cond_true] at h
  split at h
  case h_2 => cases h
  rename_i u hu
  cases hsu : scal u with
  | false => rw [hsu] at h; cases h
  | true =>
  rw [hsu, cond_true, Option.some.injEq] at h
  subst h
  have hl := scals_eq hs (envAll_ok hr _ _ hvs)
  exact ⟨_, scal_rel hsu, Vars.ok P o ρ vs u w hu H.ro hl⟩
def evSame (P : Program) (r : Env) (t : Tr) (o : Oper) : Option Value :=
  match evSame0 P r t o with
  | some v => some v
  | none => factV P r o
theorem evSame_ok {v : Value} (H : Holds σ t.mem w) (hr : r.ok σ ρ) (h : evSame P r t o = some v) : ∃ v', VR σ v v' ∧ (execOp ρ o).run P w = .ok (.value v') w := by
  unfold evSame at h
  split at h
  · rename_i u hu
    cases h
    exact evSame0_ok H hr hu
  · exact factV_ok H hr h

/-- An operation. -/
def ev1 (P : Program) (F : Book) (r : Env) (o : Oper) (t : Tr) (n : Nat) : Option Nx :=
  match o.op with
  | .alloc ty => evAlloc P t n ty
  | .box ty x => match r x with
    | some v => evBox t n ty v
    | none => none
  | .buildSlice ty len ps => evBuildSlice P r t n ty len ps.toList
  | .makeSlice ty l c => match r l, r c with
    | some a, some b => evMakeSlice P t n ty a b
    | _, _ => none
  | .store ty a x => match r a, r x with
    | some av, some xv => match storeV P t ty av xv with
      | some t' => some (.val undef t' n)
      | none => none
    | _, _ => none
  | .makeMap ty rs => match rs with
    | none => evMakeMap t n
    | some x => match r x, P.underlying ty with
      | some (.int _ _), some (.map _ _) => evMakeMap t n
      | _, _ => none
  | .mapUpdate ty m k x => match r m, r k, r x with
    | some mv, some kv, some xv => match evMapUpdate P t ty mv kv xv with
      | some t' => some (.val undef t' n)
      | none => none
    | _, _, _ => none
  | .insert ty m k x => match r m, r k, r x with
    | some mv, some kv, some xv => match evMapUpdate P t ty mv kv xv with
      | some t' => some (.val undef t' n)
      | none => none
    | _, _, _ => none
  | .range ty x => match r x with
    | some v => evRangeI P t n ty v
    | none => none
  | .next x str => match r x with
    | some v => match evNext t v str with
      | some (u, t') => some (.val u t' n)
      | none => none
    | none => none
  | .call c => match c.callee with
    | .builtin .delete => match envAll r c.args.toList, c.argTypes.toList with
      | some [m, k], t1 :: _ => match evDelete P t t1 m k with
        | some t' => some (.val (.tuple #[]) t' n)
        | none => none
      | _, _ => none
    | .builtin .append => match envAll r c.args.toList, c.argTypes.toList with
      | some [s, x], [t1, t2] => match evAppend P t n t1 t2 s x with
        | some (v, t', n') => some (.val v t' n')
        | none => match evAppendZ P t n t1 t2 s x with
          | some (v, t', n') => some (.val v t' n')
          | none => none
      | _, _ => none
    | .builtin .copy => match envAll r c.args.toList, c.argTypes.toList with
      | some [s, x], [t1, t2] => match evCopy P t t1 s x with
        | some (v, t') => some (.val v t' n)
        | none => none
      | _, _ => none
    | .builtin .clear => match envAll r c.args.toList, c.argTypes.toList with
      | some [x], [t1] => match evClear P t t1 x with
        | some t' => some (.val undef t' n)
        | none => none
      | _, _ => none
    | .value f => match r f, envAll r c.args.toList with
      | some (.func (.func g) _ caps), some args => match F g with
        | some row => match row.ovl with
          | none => some (.call g (args ++ caps.toList))
          | some tS => match args, caps.toList with
            | [.slice (some ⟨a, ao, none⟩) _ _, .slice (some ⟨b, bo, none⟩) _ _], [] => match t.mem a, t.mem b, P.underlying tS with
              | some (.cells ca _ _), some (.cells cb _ _), some (.slice e) =>
                bif !(Nat.beq a b) && Nat.ble ao ca.length && Nat.blt 0 cb.length && (sizeV P e).isSome then some (.val (.bool false) t n) else none
              | _, _, _ => none
            | _, _ => none
        | none => none
      | _, _ => none
    | _ => match evSame P r t o with
      | some v => some (.val v t n)
      | none => none
  | _ => match evSame P r t o with
    | some v => some (.val v t n)
    | none => none

theorem arr2 {α : Type} {a : Array α} {x y : α} (h : a.toList = [x, y]) : a = #[x, y] := by apply Array.ext'; simpa using h
theorem arr1 {α : Type} {a : Array α} {x : α} (h : a.toList = [x]) : a = #[x] := by apply Array.ext'; simpa using h
theorem envAll_len : ∀ (xs : List Operand) (vs : List Value), envAll r xs = some vs → xs.length = vs.length
  | [], vs, h => by cases h; rfl
  | x :: xs, vs, h => by
    simp only [envAll] at h
    split at h
    · split at h
      · rename_i us hus; cases h; simp [envAll_len xs us hus]
      · cases h
    · cases h

set_option maxHeartbeats 1000000 in
theorem ev1_ok {y : Nx} (hF : F.ok P) (H : Holds σ t.mem w) (hr : r.ok σ ρ) (h : ev1 P F r o t n = some y) : OpOK P o ρ w σ t.mem n y := by
  have hsame : (match evSame P r t o with | some v => some (Nx.val v t n) | none => none) = some y → OpOK P o ρ w σ t.mem n y := by
    intro h
    split at h
    · rename_i v hv
      cases h
      obtain ⟨v', h1, h2⟩ := evSame_ok H hr hv
      exact OpOK.same H h1 h2
    · cases h
  unfold ev1 at h
  split at h
  · rename_i ty ho; exact evAlloc_ok H ho h
  · rename_i ty x ho
    split at h
    · rename_i v hv; exact evBox_ok H ho (hr _ _ hv) h
    · cases h
  · rename_i ty len ps ho; exact evBuildSlice_ok H hr ho h
  · rename_i ty l c ho
    split at h
    · rename_i a b ha hb; exact evMakeSlice_ok H ho (hr _ _ ha) (hr _ _ hb) h
    · cases h
  · rename_i ty a x ho
    split at h
    case h_2 => cases h
    rename_i av xv ha hx
    split at h
    case h_2 => cases h
    rename_i t' ht
    cases h
    intro _
    obtain ⟨w', h1, h2⟩ := storeV_ok (n := n) H (hr _ _ ha) (hr _ _ hx) ht
    exact ⟨σ, w', undef, h1, undef_rel, .inr ⟨by simp [execOp, ho, Sem.run_bind, h2], rfl⟩⟩
  · rename_i ty rs ho
    split at h
    · exact evMakeMap_ok H h (by simp only [execOp, ho, Option.map_none]; rfl)
    · rename_i x
      split at h
      case h_2 => cases h
      rename_i k i kt et hx hu
      have hxv := hr _ _ hx
      generalize hy : ρ x = y at hxv
      cases hxv
      exact evMakeMap_ok H h (by simp [execOp, ho, Instr.makeMap, hy, Sem.run_bind, run_underlying hu, asInt, asIntOf])
  · rename_i ty m k x ho
    split at h
    case h_2 => cases h
    rename_i mv kv xv hm hk hx
    split at h
    case h_2 => cases h
    rename_i t' ht
    cases h
    intro _
    obtain ⟨w', h1, h2⟩ := evMapUpdate_ok (n := n) H (hr _ _ hm) (hr _ _ hk) (hr _ _ hx) ht
    exact ⟨σ, w', undef, h1, undef_rel, .inr ⟨by simp [execOp, ho, Sem.run_bind, h2], rfl⟩⟩
  · rename_i ty m k x ho
    split at h
    case h_2 => cases h
    rename_i mv kv xv hm hk hx
    split at h
    case h_2 => cases h
    rename_i t' ht
    cases h
    intro _
    obtain ⟨w', h1, h2⟩ := evMapUpdate_ok (n := n) H (hr _ _ hm) (hr _ _ hk) (hr _ _ hx) ht
    exact ⟨σ, w', undef, h1, undef_rel, .inr ⟨by simp [execOp, ho, Sem.run_bind, h2], rfl⟩⟩
  · rename_i ty x ho
    split at h
    case h_2 => cases h
    rename_i xv hx
    exact evRangeI_ok H (hr _ _ hx) h (by simp only [execOp, ho])
  · rename_i x str ho
    split at h
    case h_2 => cases h
    rename_i xv hx
    split at h
    case h_2 => cases h
    rename_i u t' ht
    cases h
    intro _
    obtain ⟨w', v', h1, h2, h3⟩ := evNext_ok (P := P) (n := n) (ty := o.type) H (hr _ _ hx) ht
    exact ⟨σ, w', v', h1, h2, .inl (by simp [execOp, ho, Sem.run_bind, h3])⟩
  · rename_i c ho
    have hargs : ∀ vs, envAll r c.args.toList = some vs → LR σ vs (c.args.map ρ).toList := by
      intro vs hvs
      have := envAll_ok hr _ _ hvs
      simpa using this
    split at h
    · rename_i hcal
      split at h
      case h_2 => cases h
      rename_i m k t1 rest hvs hts
      split at h
      case h_2 => cases h
      rename_i t' hap
      cases h
      intro hf
      have hl := hargs _ hvs
      generalize hgen : c.args.map ρ = args at hl
      have hlen : args.toList.length = 2 := hl.1.symm
      obtain ⟨s', x', hsx⟩ : ∃ s' x', args.toList = [s', x'] := by
        match args.toList, hlen with
        | [a, b], _ => exact ⟨a, b, rfl⟩
      rw [hsx] at hl
      have haa := arr2 hsx
      have ht0 : c.argTypes[0]? = some t1 := by rw [← Array.getElem?_toList, hts]; rfl
      obtain ⟨w', e1, e3⟩ := evDelete_ok (P := P) (n := n) (ty := o.type) ht0 H hl.head hl.tail.head hap
      exact ⟨σ, w', .tuple #[], e1, .tuple #[] #[] rfl fun i h => by simp at h, .inl (by simp [execOp, ho, resolve, hcal, hgen, haa, invoke, builtin, Sem.run_bind, e3])⟩
    · rename_i hcal
      split at h
      case h_2 => cases h
      rename_i s x t1 t2 hvs hts
      have key : ∀ v t' n', y = .val v t' n' → (∀ s' x', VR σ s s' → VR σ x x' → Fresh σ n n' → ∃ σ' w' v', Ext t.mem n n' σ σ' t'.mem w w' ∧ VR σ' v v' ∧ (Builtin.append_ #[t1, t2] o.type #[s', x']).run P w = .ok v' w') → OpOK P o ρ w σ t.mem n y := by
        rintro v t' n' rfl hap hf
        have hl := hargs _ hvs
        have htt := arr2 hts
        generalize hgen : c.args.map ρ = args at hl
        have hlen : args.toList.length = 2 := hl.1.symm
        obtain ⟨s', x', hsx⟩ : ∃ s' x', args.toList = [s', x'] := by
          match args.toList, hlen with
          | [a, b], _ => exact ⟨a, b, rfl⟩
        rw [hsx] at hl
        have haa := arr2 hsx
        obtain ⟨σ', w', v', e1, e2, e3⟩ := hap s' x' hl.head hl.tail.head hf
        exact ⟨σ', w', v', e1, e2, .inl (by simp [execOp, ho, resolve, hcal, hgen, haa, htt, invoke, builtin, Sem.run_bind, e3])⟩
      split at h
      · rename_i v t' n' hap
        cases h
        exact key _ _ _ rfl fun s' x' hs hx hf => evAppend_ok (P := P) (ty := o.type) H hs hx hap hf
      · split at h
        case h_2 => cases h
        rename_i v t' n' hap
        cases h
        exact key _ _ _ rfl fun s' x' hs hx hf => evAppendZ_ok (P := P) (ty := o.type) H hs hx hap hf
    · rename_i hcal
      split at h
      case h_2 => cases h
      rename_i s x t1 t2 hvs hts
      split at h
      case h_2 => cases h
      rename_i v t' hap
      cases h
      intro hf
      have hl := hargs _ hvs
      have htt := arr2 hts
      generalize hgen : c.args.map ρ = args at hl
      have hlen : args.toList.length = 2 := hl.1.symm
      obtain ⟨s', x', hsx⟩ : ∃ s' x', args.toList = [s', x'] := by
        match args.toList, hlen with
        | [a, b], _ => exact ⟨a, b, rfl⟩
      rw [hsx] at hl
      have haa := arr2 hsx
      obtain ⟨w', v', e1, e2, e3⟩ := evCopy_ok (P := P) (n := n) (t2 := t2) (ty := o.type) H hl.head hl.tail.head hap
      exact ⟨σ, w', v', e1, e2, .inl (by simp [execOp, ho, resolve, hcal, hgen, haa, htt, invoke, builtin, Sem.run_bind, e3])⟩
    · rename_i hcal
      split at h
      case h_2 => cases h
      rename_i x t1 hvs hts
      split at h
      case h_2 => cases h
      rename_i t' hap
      cases h
      intro hf
      have hl := hargs _ hvs
      have htt := arr1 hts
      generalize hgen : c.args.map ρ = args at hl
      have hlen : args.toList.length = 1 := hl.1.symm
      obtain ⟨x', hsx⟩ : ∃ x', args.toList = [x'] := by
        match args.toList, hlen with
        | [a], _ => exact ⟨a, rfl⟩
      rw [hsx] at hl
      have haa := arr1 hsx
      obtain ⟨w', e1, e3⟩ := evClear_ok (P := P) (n := n) (ty := o.type) H hl.head hap
      exact ⟨σ, w', undef, e1, undef_rel, .inl (by simp [execOp, ho, resolve, hcal, hgen, haa, htt, invoke, builtin, Sem.run_bind, e3])⟩
    · rename_i f hcal
      split at h
      case h_2 => cases h
      rename_i g first caps args hfn hvs
      split at h
      case h_2 => cases h
      rename_i row hrow
      have hl := hargs _ hvs
      have hfv := hr _ _ hfn
      generalize hgf : ρ f = fv at hfv
      split at h
      case h_2 =>
        rename_i tS hov
        split at h
        case h_2 => cases h
        rename_i a ao la lca b bo lb lcb hcaps
        split at h
        case h_2 => cases h
        rename_i ca ea esa cb eb esb e hca hcb hu
        cases hcd : (!(Nat.beq a b) && Nat.ble ao ca.length && Nat.blt 0 cb.length && (sizeV P e).isSome) with
        | false => rw [hcd] at h; cases h
        | true =>
          rw [hcd, cond_true, Option.some.injEq] at h
          subst h
          simp only [Bool.and_eq_true, Bool.not_eq_true'] at hcd
          obtain ⟨⟨⟨c1, c2⟩, c3⟩, c4⟩ := hcd
          have c2 := Nat.le_of_ble_eq_true c2
          have c3 : 0 < cb.length := Nat.le_of_ble_eq_true c3
          obtain ⟨k, hk⟩ := Option.isSome_iff_exists.1 c4
          have hne : a ≠ b := fun e => by rw [beqT e] at c1; cases c1
          cases hfv with
          | func g cs cs' hs hv =>
          have hcs0 : caps = #[] := by simpa using hcaps
          subst hcs0
          have hcs' : cs' = #[] := by simpa using hs.symm
          subst hcs'
          generalize hgen : c.args.map ρ = argv at hl
          have hlen : argv.toList.length = 2 := hl.1.symm
          obtain ⟨s', x', hsx⟩ : ∃ s' x', argv.toList = [s', x'] := by
            match argv.toList, hlen with
            | [a, b], _ => exact ⟨a, b, rfl⟩
          rw [hsx] at hl
          have haa := arr2 hsx
          have h1 := hl.head
          have h2 := hl.tail.head
          cases h1 with
          | sl _ _ _ _ c' p hp _ _ =>
          cases h2 with
          | sl _ _ _ _ d' q hq _ _ =>
          obtain ⟨p', arr, fz, a1, a2, a3, a4, a5, a6, a7⟩ := H.cells hca
          rw [hp] at a1; cases a1
          obtain ⟨q', arr', fz', b1', b2', b3, b4, b5, b6, b7⟩ := H.cells hcb
          rw [hq] at b1'; cases b1'
          have hblk : p.blk ≠ q.blk := fun e => hne (H.inj _ _ _ _ _ _ hca hcb hp hq e)
          obtain ⟨tR, hov'⟩ := hF.ovl g row tS hrow hov
          refine OpOK.same H (.bool false) ?_
          have hrun := Lib.run_overlaps_apart (P := P) w tS tR e hu k (fun w => run_sizeV hk) ⟨p.blk, p.base + ao, none⟩ ⟨q.blk, q.base + bo, none⟩ la c' lb d' hblk ea eb arr.size arr'.size (by simp [World.shape?, a2]) (by simp [World.shape?, b2']) (by omega)
            (world_frozen a2 a7 (by omega)) (world_frozen a2 a7 (Nat.le_refl _))
          simp only [execOp, ho, resolve, hcal, hgf, hgen, haa, Deferred.ofValue, Sem.run_bind, Sem.run_pure, Result.andThen_ok, invoke, Array.append_empty, Array.empty_append]
          rw [hov', hrun]
          rfl
      rename_i hov
      cases h
      obtain ⟨fn, g1, g2, g3, g4, g5⟩ := hF.code g row hrow hov
      cases hfv with
      | func g cs cs' hs hv =>
        refine ⟨(c.args.map ρ).toList ++ cs'.toList, hl.append (LR.ofAgg hs hv), ?_⟩
        have happ : ((c.args.map ρ).toList ++ cs'.toList).toArray = c.args.map ρ ++ cs' := by apply Array.ext'; simp
        have g6 : ¬ fn.name = "runtime.NumGoroutine" := by simpa using g5
        rw [happ]
        simp [execOp, ho, resolve, hcal, hgf, Deferred.ofValue, invoke, callFunc, Sem.run_bind, g1, g2, g6]
    · exact hsame h
  · exact hsame h

end
end Ev
end Go.Proofs.YtgidmgkebkodoaaGreatDoor
