/- A run on closed data, reckoned by the kernel, 5: parts, places, slices of slices, what is the same. -/
import Derived.Test.YtgidmgkebkodoaaGreatDoorEv4
set_option linter.unusedSimpArgs false
set_option linter.unusedVariables false
set_option linter.unusedSectionVars false
namespace Go.Proofs.YtgidmgkebkodoaaGreatDoor
open Go.RowKit
namespace Ev
variable [Vars]

section
variable {P : Program} {o : Oper} {ρ : Operand → Value} {w : World} {σ : Sg} {t : Tr} {n : Nat} {r : Env}

def evField (P : Program) (ty : TypeId) (x : Value) (i : Nat) : Option Value :=
  match P.underlying ty, x with
  | some (.struct fs), .agg cs => match fs.toList[i]? with
    | some f => partV P f.type cs.toList f.offset
    | none => none
  | _, _ => none
theorem evField_ok {ty : TypeId} {x x' v : Value} {i : Nat} (hx : VR σ x x') (h : evField P ty x i = some v) (w : World) : ∃ v', VR σ v v' ∧ (Instr.field ty x' i).run P w = .ok v' w := by
  unfold evField at h
  split at h
  · rename_i fs cs hu
    split at h
    · rename_i f hf
      cases hx with
      | agg cs cs' hs hv =>
        obtain ⟨v', hv', hr⟩ := partV_ok (LR.ofAgg hs hv) h w
        refine ⟨v', hv', ?_⟩
        have hf' : fs[i]? = some f := by simpa using hf
        simp only [Instr.field, Sem.run_bind, run_underlying hu, Result.andThen_ok, hf', asAgg, Sem.run_pure]
        simpa using hr
    · cases h
  · cases h

def evExtract (x : Value) (i : Nat) : Option Value :=
  match x with
  | .tuple vs => vs.toList[i]?
  | _ => none
theorem evExtract_ok {x x' v : Value} {i : Nat} (hx : VR σ x x') (h : evExtract x i = some v) (w : World) : ∃ v', VR σ v v' ∧ (Instr.extract x' i).run P w = .ok v' w := by
  unfold evExtract at h
  split at h
  · cases hx with
    | tuple cs cs' hs hv =>
      obtain ⟨y, hy, hr⟩ := (LR.ofAgg hs hv).get? h
      exact ⟨y, hr, by simp only [Instr.extract]; rw [show cs'[i]? = some y by simpa using hy]; rfl⟩
  · cases h

def evFieldAddr (P : Program) (ty : TypeId) (x : Value) (i : Nat) : Option Value :=
  match P.underlying ty, x with
  | some (.struct fs), .pointer (some ⟨b, o, none⟩) => match fs.toList[i]? with
    | some f => match sizeV P f.type with
      | some (k + 1) => some (.pointer (some ⟨b, o + f.offset, none⟩))
      | _ => none
    | none => none
  | _, _ => none
theorem evFieldAddr_ok {ty : TypeId} {x x' v : Value} {i : Nat} (hx : VR σ x x') (h : evFieldAddr P ty x i = some v) (w : World) : ∃ v', VR σ v v' ∧ (Instr.fieldAt ty x' i).run P w = .ok v' w := by
  unfold evFieldAddr at h
  split at h
  · rename_i fs b o hu
    split at h
    · rename_i f hf
      split at h
      · rename_i k hk
        cases h
        obtain ⟨p, hp, rfl⟩ := hx.addr
        refine ⟨.pointer (some ⟨p.blk, p.base + (o + f.offset), none⟩), .ptr _ _ p hp, ?_⟩
        have hf' : fs[i]? = some f := by simpa using hf
        simp only [Instr.fieldAt, Sem.run_bind, run_underlying hu, Result.andThen_ok, hf', Instr.sureAddr, Sem.run_pure, fieldPlace, run_sizeV hk, Sem.run_ite]
        rw [if_neg (by omega)]
        simp [Addr.add_mid, Nat.add_assoc]
      · cases h
    · cases h
  · cases h

def evIndexAddr (P : Program) (ty : TypeId) (x ix : Value) : Option Value :=
  match P.underlying ty, x, ix with
  | some (.slice e), .slice (some ⟨b, o, none⟩) len _, .int _ i => match sizeV P e with
    | some k => bif decide (0 ≤ i) && decide (i < len) then some (.pointer (some ⟨b, o + i.toNat * k, none⟩)) else none
    | none => none
  | some (.array len e), .pointer (some ⟨b, o, none⟩), .int _ i => match sizeV P e with
    | some k => bif decide (0 ≤ i) && decide (i < len) then some (.pointer (some ⟨b, o + i.toNat * k, none⟩)) else none
    | none => none
  | _, _, _ => none
theorem evIndexAddr_ok {ty : TypeId} {x x' ix ix' v : Value} (hx : VR σ x x') (hix : VR σ ix ix') (h : evIndexAddr P ty x ix = some v) (w : World) : ∃ v', VR σ v v' ∧ (Instr.indexAt ty x' ix').run P w = .ok v' w := by
  unfold evIndexAddr at h
  split at h
  · rename_i e b o len c k i hu
    split at h
    · rename_i sz hsz
      cases hc : (decide (0 ≤ i) && decide (i < (len : Int))) with
      | false => rw [hc] at h; cases h
      | true =>
        rw [hc, cond_true, Option.some.injEq] at h
        subst h
        simp only [Bool.and_eq_true, decide_eq_true_eq] at hc
        cases hix
        cases hx with
        | sl b o n c c' p hp hcc hl =>
          refine ⟨.pointer (some ⟨p.blk, p.base + (o + i.toNat * sz), none⟩), .ptr _ _ p hp, ?_⟩
          simp only [Instr.indexAt, asIntOf, Sem.run_bind, Sem.run_pure, Result.andThen_ok, run_underlying hu, Sem.run_ite, run_sizeV hsz]
          rw [if_pos hc]
          simp [Addr.add_mid, Nat.add_assoc]
    · cases h
  · rename_i len e b o k i hu
    split at h
    · rename_i sz hsz
      cases hc : (decide (0 ≤ i) && decide (i < (len : Int))) with
      | false => rw [hc] at h; cases h
      | true =>
        rw [hc, cond_true, Option.some.injEq] at h
        subst h
        simp only [Bool.and_eq_true, decide_eq_true_eq] at hc
        cases hix
        obtain ⟨p, hp, rfl⟩ := hx.addr
        refine ⟨.pointer (some ⟨p.blk, p.base + (o + i.toNat * sz), none⟩), .ptr _ _ p hp, ?_⟩
        simp only [Instr.indexAt, asIntOf, Sem.run_bind, Sem.run_pure, Result.andThen_ok, run_underlying hu, Sem.run_ite, run_sizeV hsz, Instr.sureAddr]
        rw [if_pos hc]
        simp [Addr.add_mid, Nat.add_assoc]
    · cases h
  · cases h

/-- An optional bound. -/
def bndV (r : Env) : Option Operand → Option (Option Nat)
  | none => some none
  | some x => match r x with
    | some (.int _ i) => bif decide (0 ≤ i) then some (some i.toNat) else none
    | _ => none
theorem bndV_ok (hr : r.ok σ ρ) {x : Option Operand} {y : Option Nat} (h : bndV r x = some y) :
    (x.map ρ = none ∧ y = none) ∨ ∃ k i, x.map ρ = some (.int k i) ∧ 0 ≤ i ∧ y = some i.toNat := by
  unfold bndV at h
  split at h
  · cases h; exact .inl ⟨rfl, rfl⟩
  · rename_i x
    split at h
    · rename_i k i hi
      cases hc : decide (0 ≤ i) with
      | false => rw [hc] at h; cases h
      | true =>
        rw [hc, cond_true, Option.some.injEq] at h
        subst h
        have := hr x _ hi
        refine .inr ⟨k, i, ?_, by simpa using hc, rfl⟩
        generalize hρ : ρ x = u at this
        cases this
        simp [hρ]
    · cases h

/-- low, high, max of a slice of so many, with so much room. -/
def bounds (len cap : Nat) (lo hi mx : Option Nat) : Option (Nat × Nat × Nat) :=
  let m := mx.getD cap
  let h := hi.getD len
  let l := lo.getD 0
  bif Nat.ble m cap && Nat.ble h m && Nat.ble l h && (hi.isSome || mx.isNone) then some (l, h, m) else none

theorem run_sliceBound {k : IntKind} {i : Int} {y : Nat} (code : BoundsCode) (h0 : 0 ≤ i) (h : i.toNat ≤ y) (w : World) : (Instr.sliceBound (.int k i) y code).run P w = .ok i.toNat w := by
  simp only [Instr.sliceBound, asIntOf, Sem.run_bind, Sem.run_pure, Result.andThen_ok, Sem.run_ite]
  rw [if_pos ⟨h0, by omega⟩]

theorem bounds_ok (hr : r.ok σ ρ) {lo hi mx : Option Operand} {l' h' m' : Option Nat} (hl : bndV r lo = some l') (hh : bndV r hi = some h') (hm : bndV r mx = some m') {len cap cap' : Nat} (hc : cap ≤ cap') {x : Nat × Nat × Nat}
    (h : bounds len cap l' h' m' = some x) (b : Bool) (w : World) :
    (Instr.sliceBounds b len cap' (lo.map ρ) (hi.map ρ) (mx.map ρ)).run P w = .ok (x.1, x.2.1, if m'.isNone then cap' else x.2.2) w ∧ x.1 ≤ x.2.1 ∧ x.2.1 ≤ x.2.2 ∧ x.2.2 ≤ cap ∧ (m' = none → x.2.2 = cap) := by
  unfold bounds at h
  dsimp only at h
  cases hcd : (Nat.ble (m'.getD cap) cap && Nat.ble (h'.getD len) (m'.getD cap) && Nat.ble (l'.getD 0) (h'.getD len) && (h'.isSome || m'.isNone)) with
  | false => rw [hcd] at h; cases h
  | true =>
    rw [hcd, cond_true, Option.some.injEq] at h
    subst h
    simp only [Bool.and_eq_true] at hcd
    obtain ⟨⟨⟨c1, c2⟩, c3⟩, c4⟩ := hcd
    have c1 := Nat.le_of_ble_eq_true c1
    have c2 := Nat.le_of_ble_eq_true c2
    have c3 := Nat.le_of_ble_eq_true c3
    refine ⟨?_, c3, c2, c1, fun hn => by rw [hn]; rfl⟩
    rcases bndV_ok hr hl with ⟨el, rfl⟩ | ⟨kl, il, el, hl0, rfl⟩ <;>
    rcases bndV_ok hr hh with ⟨eh, rfl⟩ | ⟨kh, ih, eh, hh0, rfl⟩ <;>
    rcases bndV_ok hr hm with ⟨em, rfl⟩ | ⟨km, im, em, hm0, rfl⟩ <;>
    simp only [Option.getD_some, Option.getD_none, Option.isSome_none, Option.isSome_some, Option.isNone_none, Option.isNone_some, Bool.or_true, Bool.or_false, Bool.false_eq_true] at c1 c2 c3 c4 <;>
    rw [el, eh, em] <;>
    simp only [Instr.sliceBounds, Sem.run_bind, Sem.run_pure, Result.andThen_ok, Option.isSome_none, Option.isSome_some, Option.isNone_none, Option.isNone_some, Option.getD_some, Option.getD_none, if_true, Bool.false_eq_true, if_false] <;>
    (repeat (first | rw [run_sliceBound _ (by omega) (by omega)] | simp only [Result.andThen_ok, Sem.run_pure]))

def evSlice (P : Program) (r : Env) (t : Tr) (ty : TypeId) (x : Value) (lo hi mx : Option Operand) : Option Value :=
  match bndV r lo, bndV r hi, bndV r mx with
  | some l', some h', some m' =>
    match P.underlying ty, x with
    | some (.slice e), .slice (some ⟨b, o, none⟩) len cap => match sizeV P e, bounds len cap l' h' m', t.mem b with
      | some k, some (l, h, m), some (.cells _ _ es) =>
        bif Nat.beq es 0 || (Nat.beq k es && (m'.isSome || Nat.beq l 0 || !(Nat.beq l cap))) then
          some (.slice (some ⟨b, if m = l then o else o + l * k, none⟩) (h - l) (m - l))
        else bif m'.isNone && Nat.beq l h then some (.complex .f64 0 3) else none
      | _, _, _ => none
    | some (.array len e), .pointer (some ⟨b, o, none⟩) => match sizeV P e, bounds len len l' h' m', t.mem b with
      | some k, some (l, h, m), some (.cells _ _ 0) => some (.slice (some ⟨b, if m = l then o else o + l * k, none⟩) (h - l) (m - l))
      | _, _, _ => none
    | _, _ => none
  | _, _, _ => none

theorem evSlice_ok {ty : TypeId} {x x' v : Value} {lo hi mx : Option Operand} (H : Holds σ t.mem w) (hr : r.ok σ ρ) (hx : VR σ x x') (h : evSlice P r t ty x lo hi mx = some v) :
    ∃ v', VR σ v v' ∧ (Instr.sliceAt ty x' (lo.map ρ) (hi.map ρ) (mx.map ρ)).run P w = .ok v' w := by
  unfold evSlice at h
  split at h
  · rename_i l' h' m' hl hh hm
    split at h
    · rename_i e b o len cap hu
      split at h
      · rename_i k l h1 m cs ety es hk hb hmem
        cases hcd : (Nat.beq es 0 || (Nat.beq k es && (m'.isSome || Nat.beq l 0 || !(Nat.beq l cap)))) with
        | false =>
          rw [hcd, cond_false] at h
          cases hc2 : (m'.isNone && Nat.beq l h1) with
          | false => rw [hc2] at h; cases h
          | true =>
          rw [hc2, cond_true, Option.some.injEq] at h
          subst h
          simp only [Bool.and_eq_true] at hc2
          have hlh : l = h1 := Nat.eq_of_beq_eq_true hc2.2
          cases hx with
          | sl b o n c c' p hp hcc hll =>
            obtain ⟨g1, g2, g3, g4, g5⟩ := bounds_ok (P := P) hr hl hh hm hcc hb true w
            simp only at g1 g2 g3 g4 g5
            have hrun : ∀ m2 : Nat, m2 = (if m'.isNone = true then c' else m) → (Instr.sliceAt ty (.slice (some ⟨p.blk, p.base + o, none⟩) len c') (lo.map ρ) (hi.map ρ) (mx.map ρ)).run P w =
                .ok (.slice (some (if m2 = l then ⟨p.blk, p.base + o, none⟩ else ⟨p.blk, p.base + o + l * k, none⟩)) (h1 - l) (m2 - l)) w := by
              rintro m2 rfl
              simp only [Instr.sliceAt, Instr.slice, Sem.run_bind, run_underlying hu, Result.andThen_ok, g1, run_sizeV hk, Sem.run_pure]
              split <;> (split <;> simp [Addr.add_mid])
            refine ⟨_, ?_, hrun _ rfl⟩
            have h0 : h1 - l = 0 := by omega
            rw [h0]
            exact .empty 0 _ _
        | true =>
          rw [hcd, cond_true, Option.some.injEq] at h
          subst h
          cases hx with
          | sl b o n c c' p hp hcc hll =>
            obtain ⟨g1, g2, g3, g4, g5⟩ := bounds_ok (P := P) hr hl hh hm hcc hb true w
            simp only at g1 g2 g3 g4 g5
            obtain ⟨q, arr, fz, q1, q2, q3, q4, q5, q6, q7⟩ := H.cells hmem
            rw [hp] at q1; cases q1
            have hrun : ∀ m2 : Nat, m2 = (if m'.isNone = true then c' else m) → (Instr.sliceAt ty (.slice (some ⟨p.blk, p.base + o, none⟩) len c') (lo.map ρ) (hi.map ρ) (mx.map ρ)).run P w =
                .ok (.slice (some (if m2 = l then ⟨p.blk, p.base + o, none⟩ else ⟨p.blk, p.base + o + l * k, none⟩)) (h1 - l) (m2 - l)) w := by
              rintro m2 rfl
              simp only [Instr.sliceAt, Instr.slice, Sem.run_bind, run_underlying hu, Result.andThen_ok, g1, run_sizeV hk, Sem.run_pure]
              split <;> (split <;> simp [Addr.add_mid])
            simp only [Bool.or_eq_true, Bool.and_eq_true, Bool.not_eq_true'] at hcd
            -- the cap that the machine comes to
            generalize hm2 : (if m'.isNone = true then c' else m) = m2 at hrun
            have hmm : m ≤ m2 ∧ m2 ≤ c' ∧ (m'.isSome = true → m2 = m) ∧ (m'.isSome = false → m2 = c' ∧ m = cap) := by
              subst hm2
              cases m' with
              | none => exact ⟨(by simp; omega), (by simp), (fun h => by cases h), (fun _ => ⟨by simp, g5 rfl⟩)⟩
              | some y => exact ⟨(by simp), (by simp; omega), (fun _ => by simp), (fun h => by cases h)⟩
            refine ⟨_, ?_, hrun m2 rfl⟩
            rcases hll with ⟨hz, he⟩ | ⟨hz, he⟩
            · -- exact
              have e2 : m2 = m := by
                cases hs : m'.isSome with
                | true => exact hmm.2.2.1 hs
                | false => have := hmm.2.2.2 hs; omega
              rw [e2]
              by_cases hml : m = l
              · rw [if_pos hml, if_pos hml]
                exact .sl _ _ _ _ _ p hp (Nat.le_refl _) (.inl ⟨hz, rfl⟩)
              · rw [if_neg hml, if_neg hml, Nat.add_assoc]
                exact .sl _ _ _ _ _ p hp (Nat.le_refl _) (.inl ⟨hz, rfl⟩)
            · have hes : es ≠ 0 := by omega
              obtain ⟨hk2, hside⟩ : k = es ∧ ((m'.isSome = true ∨ Nat.beq l 0 = true) ∨ Nat.beq l cap = false) := by
                rcases hcd with h | h
                · exact absurd (Nat.eq_of_beq_eq_true h) hes
                · exact ⟨Nat.eq_of_beq_eq_true h.1, h.2⟩
              subst hk2
              have hlies : o + l * k + (m2 - l) * k ≤ p.avail := by
                rw [q5] at he
                have h3 : l * k + (m2 - l) * k = m2 * k := by rw [← Nat.add_mul]; congr 1; omega
                have h4 : m2 * k ≤ c' * k := Nat.mul_le_mul_right _ hmm.2.1
                omega
              have same : (m = l ↔ m2 = l) ∨ l = 0 := by
                rcases hside with (h | h) | h
                · rw [hmm.2.2.1 h]; exact .inl Iff.rfl
                · exact .inr (Nat.eq_of_beq_eq_true h)
                · cases hs : m'.isSome with
                  | true => rw [hmm.2.2.1 hs]; exact .inl Iff.rfl
                  | false =>
                    have h5 := hmm.2.2.2 hs
                    have h6 : l ≠ cap := fun e => by rw [beqT e] at h; cases h
                    exact .inl ⟨fun e => by omega, fun e => by omega⟩
              rcases same with same | rfl
              · by_cases hml : m = l
                · have hml2 := same.1 hml
                  rw [if_pos hml, if_pos hml2]
                  refine .sl _ _ _ _ _ p hp (by omega) (.inr ⟨hz, ?_⟩)
                  rw [q5]
                  have : (m2 - l) * k = 0 := by rw [hml2, Nat.sub_self, Nat.zero_mul]
                  omega
                · have hml2 : ¬ m2 = l := fun h => hml (same.2 h)
                  rw [if_neg hml, if_neg hml2, Nat.add_assoc]
                  exact .sl _ _ _ _ _ p hp (by omega) (.inr ⟨hz, by rw [q5]; exact hlies⟩)
              · simp only [Nat.zero_mul, Nat.add_zero, ite_self, Nat.sub_zero] at hlies ⊢
                exact .sl _ _ _ _ _ p hp (by omega) (.inr ⟨hz, by rw [q5]; exact hlies⟩)
      · cases h
    · rename_i len e b o hu
      split at h
      · rename_i k l h1 m cs ety hk hb hmem
        cases h
        obtain ⟨p, hp, rfl⟩ := hx.addr
        obtain ⟨q, arr, fz, q1, q2, q3, q4, q5, q6, q7⟩ := H.cells hmem
        rw [hp] at q1; cases q1
        obtain ⟨g1, g2, g3, g4, g5⟩ := bounds_ok (P := P) hr hl hh hm (Nat.le_refl len) hb false w
        simp only at g1 g2 g3 g4 g5
        have hm2 : (if m'.isNone = true then len else m) = m := by
          cases m' with
          | none => simp [g5 rfl]
          | some y => rfl
        rw [hm2] at g1
        refine ⟨.slice (some ⟨p.blk, p.base + (if m = l then o else o + l * k), none⟩) (h1 - l) (m - l), .sl _ _ _ _ _ p hp (Nat.le_refl _) (.inl ⟨q5, rfl⟩), ?_⟩
        simp only [Instr.sliceAt, Instr.sureAddr, Sem.run_bind, run_underlying hu, Result.andThen_ok, g1, run_sizeV hk, Sem.run_pure]
        split <;> simp [Addr.add_mid, Nat.add_assoc]
      · cases h
    · cases h
  · cases h
end
end Ev
end Go.Proofs.YtgidmgkebkodoaaGreatDoor
