/- A run on closed data, reckoned by the kernel, 20: a region that draws its order, whole; and a call, whole. -/
import Derived.Test.YtgidmgkebkodoaaGreatDoorEv19
set_option linter.unusedSimpArgs false
set_option linter.unusedVariables false
set_option linter.unusedSectionVars false
namespace Go.Proofs.YtgidmgkebkodoaaGreatDoor
open Go.RowKit
namespace Ev
variable [Vars]

section
variable {P : Program} {F : Book} {ih : Rec} {ops : Array Oper} {σ0 : Sg} {w0 : World} {h0 : Mem} {n0 : Nat} {ts0 : List Value} {Sf : DS}
variable {R : List Nat} {S : DS} {done : Nat} {L : Nat → Bool} {tm : Array Value} {w : World} {σ : Sg}

/-- An operation that does more is the next one in the one order, too. -/
theorem INV.loud {fr : Frame} {cs : List Frame} {k : List Item} {rest : List Nat} (hF : F.ok P) (hih : RecOK P ih) (I : INV P F ih ops σ0 w0 h0 n0 ts0 Sf R S done L fr.tmps w σ) (hnorm : R = [] ∨ ∃ a R', R = a :: R' ∧ L a = false)
    {i : Nat} {o : Oper} (hm : fr.mode = .run) (ht : fr.todo = .inRegion ops (i :: rest) :: k) (ho : ops[i]? = some o) (hL : L i = false)
    (hi : i < ops.size) (hq : isLoud o = true) (hr : ∀ e ∈ o.after.toList, Region.binds .any e = true → L e.on = true) :
    ∃ σ' w' v' R' S' done', INV P F ih ops σ0 w0 h0 n0 ts0 Sf R' S' done' (setL L i) (putT fr.tmps o.dst v') w' σ' ∧ Steps P (lone fr cs w) (lone (fr.finish v') cs w') := by
  have hoi : ops.toList[i]? = some o := by simpa using ho
  have hiR : i ∈ R := by
    rcases ordOK_all I.ord i hi with h | h
    · rw [I.sub i h] at hL; cases hL
    · exact h
  obtain ⟨a, R', hR, hLa⟩ : ∃ a R', R = a :: R' ∧ L a = false := by
    rcases hnorm with h | h
    · rw [h] at hiR; simp at hiR
    · exact h
  obtain ⟨R2, Si, Sj, di, A⟩ := at_turn hL I.news I.ev I.ord hiR
  have hai : a = i := by
    rcases Nat.decEq a i with h | h
    · have hd := A.head a R' hR h
      obtain ⟨o', g1, g2, g3, g4, g5, g6, g7, g8⟩ := ordOK_cons A.ord
      rw [hoi] at g1; cases g1
      have hb := sub_ok (g5 hq) hd
      have := anc_in ops.toList I.down (i := i) (fun o2 e ho2 he hb => by rw [hoi] at ho2; cases ho2; exact hr e he hb) hb
      rw [hLa] at this; cases this
    · exact h
  subst hai
  subst hR
  obtain ⟨S', h1, h2⟩ := evDr_cons I.ev
  obtain ⟨o', g1, g2, g3, g4, g5, g6, g7, g8⟩ := ordOK_cons I.ord
  rw [hoi] at g1; cases g1
  have hnd := ordOK_nodup I.ord
  obtain ⟨a1, a2, a3, a4, a5, a6⟩ := dstep_all h1
  -- its turn is now
  have A0 : AtI P F ih ops.toList (ancs ops.toList []) (loudMask ops.toList 0 0) ops.size Sf (a :: R') S done a L R' S S' done := by
    refine ⟨h1, h2, I.ord, Nat.le_refl _, fun _ h => h, fun _ h => h, fun _ _ => rfl, fun b R'' he hb => by cases he; exact absurd rfl hb, fun hn => ?_, fun e k o hm hk => absurd (I.news e k o hm) (by omega), fun e k o hm => .inl hm, ?_⟩
    · obtain ⟨o2, N, c1, _, c2, _⟩ := newAt_n h1 hn
      rw [hoi] at c1; cases c1
      unfold isLoud at hq
      unfold isNew at c2
      cases hop : o.op <;> rw [hop] at c2 hq <;> first | (cases c2; done) | (cases hq; done)
    · rw [exM_cons h1, exM_cons h1]
      have : exM P F ih ops.toList (ancs ops.toList []) (loudMask ops.toList 0 0) (setL L a) R' S' = exM P F ih ops.toList (ancs ops.toList []) (loudMask ops.toList 0 0) L R' S' := exM_congr h2 fun j hj => by
        unfold setL
        have hja : j ≠ a := fun h => by rw [h] at hj; exact hnd hj
        rw [if_neg hja]
      rw [this]
      funext j
      have hs : setL L a a = true := by simp [setL]
      rw [hs, hL]
      by_cases hc : newAt ops.toList a S = true ∧ j = S.n
      · rw [if_pos ⟨rfl, hc⟩, if_pos hc]
      · rw [if_neg fun h => hc h.2, if_neg hc]
        dsimp only
        rw [if_neg (by simp)]
  obtain ⟨vals, henv, hwant⟩ := I.env ho hL hr A0
  have hnew : newAt ops.toList a S = false := by
    cases hn : newAt ops.toList a S with
    | false => rfl
    | true =>
      obtain ⟨o2, N, c1, _, c2, _⟩ := newAt_n h1 hn
      rw [hoi] at c1; cases c1
      unfold isLoud at hq
      unfold isNew at c2
      cases hop : o.op <;> rw [hop] at c2 hq <;> first | (cases c2; done) | (cases hq; done)
  have hex0 : exM P F ih ops.toList (ancs ops.toList []) (loudMask ops.toList 0 0) L (a :: R') S = exM P F ih ops.toList (ancs ops.toList []) (loudMask ops.toList 0 0) L R' S' := by
    rw [exM_cons h1]
    funext j
    rw [hL]
    simp
  have hex1 : exM P F ih ops.toList (ancs ops.toList []) (loudMask ops.toList 0 0) (setL L a) R' S' = exM P F ih ops.toList (ancs ops.toList []) (loudMask ops.toList 0 0) L R' S' := exM_congr h2 fun j hj => by
    unfold setL
    have hja : j ≠ a := fun h => by rw [h] at hj; exact hnd hj
    rw [if_neg hja]
  have hdown := down_set I.down hoi hr
  have hsub : ∀ j, Nat.testBit (done ||| 2 ^ a) j = true → setL L a j = true := fun j hj => by
    unfold setL
    by_cases hja : j = a
    · rw [if_pos hja]
    · rw [if_neg hja]
      rw [tb_or, tb_pow] at hj
      simp only [Bool.or_eq_true, decide_eq_true_eq] at hj
      rcases hj with h | h
      · exact I.sub j h
      · exact absurd h.symm hja
  have hquiet : ∀ j ∈ R', setL L a j = true → ∀ o, ops[j]? = some o → isLoud o = false := by
    intro j hj hs oj hoj
    unfold setL at hs
    have hja : j ≠ a := fun h => by rw [h] at hj; exact hnd hj
    rw [if_neg hja] at hs
    exact I.quiet j (List.mem_cons_of_mem _ hj) hs oj hoj
  have hbase : ∀ x, (∀ j, Nat.testBit (done ||| 2 ^ a) j = true → dstIs ops.toList x j = false) → S'.ts[x]? = ts0[x]? := fun x hx => by
    rw [a3 x (hx a (by rw [tb_or, tb_pow]; simp))]
    exact I.base x fun j hj => hx j (by rw [tb_or, hj]; rfl)
  have hlm : (Nat.testBit S'.lm a = true) → ∀ j o, Nat.testBit (done ||| 2 ^ a) j = true → ops[j]? = some o → isLoud o = true → Nat.testBit S'.lm j = true := fun h0 j oj hj hoj hl => by
    rw [tb_or, tb_pow] at hj
    simp only [Bool.or_eq_true, decide_eq_true_eq] at hj
    rcases hj with h | h
    · exact a6 j (I.lm j oj h hoj hl)
    · rw [← h]; exact h0
  have hlen2 : ∀ v' : Value, ts0.length = (putT fr.tmps o.dst v').size := fun v' => by rw [putT_size]; exact I.len
  obtain ⟨o2, ho2, hc⟩ := dstep_cases h1
  rw [hoi] at ho2; cases ho2
  have hSf := (evDr_all h2).1
  rcases hc with ⟨b1, b2, _⟩ | ⟨b1, b2, b3, v, t', n', b4, b5, b6⟩ | ⟨_, _, b3, _⟩ | ⟨b1, b2, b3⟩ | ⟨_, b2, _⟩
  · unfold newAt at hnew
    rw [hoi] at hnew
    simp [b1, b2] at hnew
  · have hn' : S'.n = n' := by rw [b6]
    have ht' : S'.t = t' := by rw [b6]
    have hfr : Fresh σ S.n n' := fun j hj hj2 => by
      refine I.fresh j hj (by omega) ?_
      rw [hex0]
      cases hx : exM P F ih ops.toList (ancs ops.toList []) (loudMask ops.toList 0 0) L R' S' j with
      | none => rfl
      | some x =>
        have := (exM_dom h2 j x hx).1
        omega
    obtain ⟨σ', w', v', e1, e2, e3⟩ := evOp_ok (cs := cs) hF hih b4 hm henv ht ho (by rw [hwant]; exact b1) I.part hfr
    have hout : ∀ j x, exM P F ih ops.toList (ancs ops.toList []) (loudMask ops.toList 0 0) L R' S' j = some x → S.t.mem j = none := fun j x hx => by
      have := exM_dom h2 j x hx
      exact I.bnd j (by omega) this.2
    have e4 : Ext (fun j => match S.t.mem j with | some o => some o | none => exM P F ih ops.toList (ancs ops.toList []) (loudMask ops.toList 0 0) L (a :: R') S j) S.n n' σ σ'
        (fun j => match S'.t.mem j with | some o => some o | none => exM P F ih ops.toList (ancs ops.toList []) (loudMask ops.toList 0 0) (setL L a) R' S' j) w w' := by
      refine Ext.around I.ext.holds (fun j x hj => by rw [hj]) e1 fun j x hj => ?_
      rw [ht'] at hj
      cases hm' : t'.mem j with
      | some y => rw [hm'] at hj; exact .inl hj
      | none =>
        rw [hm'] at hj
        dsimp only at hj
        rw [hex1] at hj
        refine .inr ⟨rfl, hout j x hj, ?_⟩
        rw [hout j x hj, hex0]
        exact hj
    have e5 := I.ext.wide e4 I.le (by omega)
    obtain ⟨s1, s2⟩ := I.slots ho hL A0 e1.more e2 (by rw [b6])
    refine ⟨σ', w', v', R', S', done ||| 2 ^ a, ⟨h2, g8, hsub, hquiet, hlm (by rw [b6]; dsimp only; rw [tb_or, tb_pow]; simp), a5 I.hist, (dstep_news h1 I.news).1, e5, fun j hj hj2 => ?_, fun j hj hj2 hx => ?_, s1, s2, hbase, hlen2 v', a2.trans I.len2, hdown, Nat.le_trans I.le a1⟩, e3⟩
    · rw [ht']
      cases hm' : t'.mem j with
      | none => rfl
      | some y =>
        rcases e1.live j y hm' with ⟨z, hz⟩ | hz
        · rw [I.bnd j (by omega) hj2] at hz; cases hz
        · omega
    · cases hs : σ' j with
      | none => rfl
      | some p =>
        rcases e1.off j p hs with h | h
        · rw [hex1, ← hex0] at hx
          rw [I.fresh j (by omega) hj2 hx] at h; cases h
        · omega
  · rw [hq] at b3; cases b3
  · have hn' : S'.n = S.n := by rw [b3]
    have ht' : S'.t = S.t := by rw [b3]
    obtain ⟨s1, s2⟩ := I.slots ho hL A0 (Sg.le.refl σ) undef_rel (by rw [b3])
    refine ⟨σ, w, undef, R', S', done ||| 2 ^ a, ⟨h2, g8, hsub, hquiet, hlm (by rw [b3]; dsimp only; rw [tb_or, tb_pow]; simp), a5 I.hist, (dstep_news h1 I.news).1, ?_, ?_, ?_, s1, s2, hbase, hlen2 undef, a2.trans I.len2, hdown, Nat.le_trans I.le a1⟩, .one (st_op_skip hm ht ?_)⟩
    · rw [ht', hex1, ← hex0]; exact I.ext
    · rw [hn', ht']; exact I.bnd
    · rw [hn', hex1, ← hex0]; exact I.fresh
    · rw [ho]
      simp only [Option.map_some, Option.getD_some]
      rw [hwant]; exact b1
  · rw [hq] at b2; cases b2

theorem Ext.congr {h g g' : Mem} {n n' : Nat} {σ σ' : Sg} {w w' : World} (e : Ext h n n' σ σ' g w w') (hg : ∀ j, g j = g' j) : Ext h n n' σ σ' g' w w' := by
  have : g = g' := funext hg
  subst this
  exact e

/-! how many are left -/
def cnt (L : Nat → Bool) : Nat → Nat
  | 0 => 0
  | k + 1 => cnt L k + (if L k = true then 0 else 1)
theorem cnt_le : ∀ (L : Nat → Bool) (k : Nat), cnt L k ≤ k
  | L, 0 => Nat.le_refl _
  | L, k + 1 => by
    have := cnt_le L k
    simp only [cnt]
    split <;> omega
theorem cnt_zero : ∀ {L : Nat → Bool} {k : Nat}, cnt L k = 0 → ∀ j, j < k → L j = true
  | L, 0, _, j, hj => by omega
  | L, k + 1, h, j, hj => by
    simp only [cnt] at h
    by_cases he : j = k
    · subst he
      by_cases hl : L j = true
      · exact hl
      · rw [if_neg hl] at h; omega
    · have h' : cnt L k = 0 := by split at h <;> omega
      exact cnt_zero h' j (by omega)
theorem cnt_set_ge : ∀ {L : Nat → Bool} {i k : Nat}, k ≤ i → cnt (setL L i) k = cnt L k
  | L, i, 0, _ => rfl
  | L, i, k + 1, h => by
    simp only [cnt]
    have : setL L i k = L k := by unfold setL; rw [if_neg (by omega)]
    rw [cnt_set_ge (by omega), this]
theorem cnt_set : ∀ {L : Nat → Bool} {i k : Nat}, i < k → L i = false → cnt (setL L i) k + 1 = cnt L k
  | L, i, 0, h, _ => by omega
  | L, i, k + 1, h, hL => by
    simp only [cnt]
    by_cases he : i = k
    · subst he
      rw [cnt_set_ge (Nat.le_refl _)]
      have : setL L i i = true := by simp [setL]
      rw [this, hL]
      simp
    · have : setL L i k = L k := by unfold setL; rw [if_neg (by omega)]
      rw [this]
      have := cnt_set (L := L) (i := i) (k := k) (by omega) hL
      omega

def Lf (listed : Array Bool) : Nat → Bool := fun j => listed.getD j false
theorem Lf_set {listed : Array Bool} {i : Nat} (h : i < listed.size) : Lf (listed.setIfInBounds i true) = setL (Lf listed) i := by
  funext j
  unfold Lf setL
  by_cases he : j = i
  · subst he
    rw [if_pos rfl]
    simp [h]
  · rw [if_neg he]
    exact getD_set_ne false (Ne.symm he)

/-- The rest of such a region, whatever is drawn. -/
theorem INV.run (hF : F.ok P) (hih : RecOK P ih) {k : List Item} {cs : List Frame} : ∀ (fuel : Nat) (t : Nat) (listed : Array Bool) (R : List Nat) (S : DS) (done : Nat) (fr : Frame) (w : World) (σ : Sg),
    listed.size = ops.size → cnt (Lf listed) ops.size ≤ fuel → INV P F ih ops σ0 w0 h0 n0 ts0 Sf R S done (Lf listed) fr.tmps w σ → fr.mode = .run →
    fr.todo = .inRegion ops (Region.linearise.go .any ops fuel t listed []) :: k →
    ∃ σ' w' tm', Ext h0 n0 Sf.n σ0 σ' Sf.t.mem w0 w' ∧ LR σ' Sf.ts tm'.toList ∧ Steps P (lone fr cs w) (lone { fr with tmps := tm', todo := k } cs w') := by
  have done_all : ∀ {R : List Nat} {S : DS} {done : Nat} {L : Nat → Bool} {tm : Array Value} {w : World} {σ : Sg}, INV P F ih ops σ0 w0 h0 n0 ts0 Sf R S done L tm w σ → (∀ j, j < ops.size → L j = true) →
      Ext h0 n0 Sf.n σ0 σ Sf.t.mem w0 w ∧ LR σ Sf.ts tm.toList := by
    intro R S done L tm w σ I hall
    obtain ⟨R', S', done', I', hn⟩ := I.norm
    have hR : R' = [] := by
      rcases hn with h | ⟨i, R'', h, hL⟩
      · exact h
      · subst h
        have := (ordOK_not I'.ord i List.mem_cons_self).2
        rw [hall i this] at hL; cases hL
    subst hR
    have hS : S' = Sf := by have := I'.ev; simp only [evDr, Except.ok.injEq] at this; exact this
    subst hS
    refine ⟨?_, LR.of_get? ?_ fun x v hx => ?_⟩
    · refine I'.ext.congr fun j => ?_
      dsimp only [exM]
      cases S'.t.mem j <;> rfl
    · rw [I'.len2, I'.len, Array.length_toList]
    · obtain ⟨v', h1, h2⟩ := I'.tf x v (fun j hj _ => hall j hj) hx
      exact ⟨v', by rw [Array.getElem?_toList]; exact h1, h2⟩
  intro fuel
  induction fuel with
  | zero =>
    intro t listed R S done fr w σ hsz hcnt I hm ht
    obtain ⟨e1, e2⟩ := done_all I (cnt_zero (by omega))
    simp only [Region.linearise.go, List.reverse_nil] at ht
    exact ⟨σ, w, fr.tmps, e1, e2, .one (st_region_end hm ht)⟩
  | succ fuel ihf =>
    intro t listed R S done fr w σ hsz hcnt I hm ht
    obtain ⟨R', S', done', I', hn⟩ := I.norm
    have hgo : Region.linearise.go .any ops (fuel + 1) t listed [] = match (Region.ready .any ops listed)[t % (Region.ready .any ops listed).length]? with
      | some i => i :: Region.linearise.go .any ops fuel (t / (Region.ready .any ops listed).length) (listed.setIfInBounds i true) []
      | none => [] := by
      simp only [Region.linearise.go]
      change (match (Region.ready .any ops listed)[t % (Region.ready .any ops listed).length]? with
        | some i => Region.linearise.go .any ops fuel (t / (Region.ready .any ops listed).length) (listed.setIfInBounds i true) [i]
        | none => [].reverse) = _
      cases (Region.ready .any ops listed)[t % (Region.ready .any ops listed).length]? with
      | none => rfl
      | some i => dsimp only; rw [linearise_go_acc]; rfl
    cases hpick : (Region.ready .any ops listed)[t % (Region.ready .any ops listed).length]? with
    | none =>
      -- none may be next: all are done
      have hnil : Region.ready .any ops listed = [] := by
        cases hr : Region.ready .any ops listed with
        | nil => rfl
        | cons x xs =>
          rw [hr] at hpick
          have hlt : t % (x :: xs).length < (x :: xs).length := Nat.mod_lt _ (by simp)
          rw [List.getElem?_eq_getElem hlt] at hpick
          cases hpick
      rw [hgo, hpick] at ht
      have hall : ∀ j, j < ops.size → Lf listed j = true := by
        rcases hn with h | ⟨i, R'', h, hL⟩
        · intro j hj
          rcases ordOK_all I'.ord j hj with hd | hd
          · exact I'.sub j hd
          · rw [h] at hd; simp at hd
        · exfalso
          subst h
          obtain ⟨o, g1, g2, g3, g4, _⟩ := ordOK_cons I'.ord
          have : i ∈ Region.ready .any ops listed := by
            rw [mem_ready]
            refine ⟨?_, o, by simpa using g1, fun e he hb => ?_⟩
            · unfold Lf at hL
              have hlt : i < listed.size := by omega
              simp [hlt] at hL ⊢
              exact hL
            · exact I'.sub _ (edgesIn_ok g4 e (by simpa using he) hb)
          rw [hnil] at this
          simp at this
      obtain ⟨e1, e2⟩ := done_all I' hall
      exact ⟨σ, w, fr.tmps, e1, e2, .one (st_region_end hm ht)⟩
    | some i =>
      rw [hgo, hpick] at ht
      dsimp only at ht
      have hmem := List.mem_of_getElem? hpick
      rw [mem_ready] at hmem
      obtain ⟨h1, o, ho, h2⟩ := hmem
      have hi : i < ops.size := (Array.getElem?_eq_some_iff.1 ho).1
      have hil : i < listed.size := by omega
      have hL : Lf listed i = false := by
        unfold Lf
        simp [hil] at h1 ⊢
        exact h1
      have hr : ∀ e ∈ o.after.toList, Region.binds .any e = true → Lf listed e.on = true := fun e he hb => h2 e (by simpa using he) hb
      have hset := Lf_set hil
      have hc := cnt_set hi hL
      have next : ∀ {R2 : List Nat} {S2 : DS} {d2 : Nat} {v' : Value} {w' : World} {σ' : Sg}, INV P F ih ops σ0 w0 h0 n0 ts0 Sf R2 S2 d2 (setL (Lf listed) i) (putT fr.tmps o.dst v') w' σ' → Steps P (lone fr cs w) (lone (fr.finish v') cs w') →
          ∃ σ' w' tm', Ext h0 n0 Sf.n σ0 σ' Sf.t.mem w0 w' ∧ LR σ' Sf.ts tm'.toList ∧ Steps P (lone fr cs w) (lone { fr with tmps := tm', todo := k } cs w') := by
        intro R2 S2 d2 v' w' σ' I2 hst
        rw [finish_region ht, ho] at hst
        obtain ⟨σ3, w3, tm3, e1, e2, e3⟩ := ihf (t / (Region.ready .any ops listed).length) (listed.setIfInBounds i true) R2 S2 d2 { fr with tmps := putT fr.tmps o.dst v', todo := .inRegion ops (Region.linearise.go .any ops fuel (t / (Region.ready .any ops listed).length) (listed.setIfInBounds i true) []) :: k } w' σ'
          (by simpa using hsz) (by rw [hset]; omega) (by rw [hset]; exact I2) hm rfl
        exact ⟨σ3, w3, tm3, e1, e2, hst.trans e3⟩
      cases hq : isLoud o with
      | false =>
        obtain ⟨σ', w', v', I2, hst⟩ := I'.float (cs := cs) hm ht ho hL hi hq hr
        exact next I2 (.one hst)
      | true =>
        obtain ⟨σ', w', v', R2, S2, d2, I2, hst⟩ := I'.loud (cs := cs) hF hih hn hm ht ho hL hi hq hr
        exact next I2 hst

theorem drawn_ok (hmix : P.follows .mixedOrders = true) (hF : F.ok P) {ih : Rec} (hih : RecOK P ih) : DrOK P ih (drawn P F ih) := by
  intro ops ts t n ts' t' n' h hle σ w fr cs id k hm hts ht H hf
  unfold drawn at h
  cases hord : ordOK ops.toList (ancs ops.toList []) ops.toList.length (canon ops.toList) 0 with
  | false => rw [hord] at h; cases h
  | true =>
    rw [hord, cond_true] at h
    split at h
    case h_2 => cases h
    rename_i Sf hev
    cases h
    have hst := st_region_draw (P := P) (cs := cs) (w := w) hm ht
    have hsch : Region.schedule (P.follows .mixedOrders) ops (w.tape w.drawn (.order fr.fn id)) = Region.linearise.go .any ops ops.size (w.tape w.drawn (.order fr.fn id)) (Array.replicate ops.size false) [] := by
      simp only [Region.schedule, hmix, Bool.true_or, if_true, Region.linearise]
    rw [hsch] at hst
    have hex : ∀ (R : List Nat) (S : DS), evDr P F ih ops.toList (ancs ops.toList []) (loudMask ops.toList 0 0) R S = .ok Sf → exM P F ih ops.toList (ancs ops.toList []) (loudMask ops.toList 0 0) (Lf (Array.replicate ops.size false)) R S = fun _ => none := by
      intro R
      induction R with
      | nil => intro S _; rfl
      | cons i R ihR =>
        intro S hS
        obtain ⟨S', h1, h2⟩ := evDr_cons hS
        rw [exM_cons h1, ihR S' h2]
        funext j
        have hl : Lf (Array.replicate ops.size false) i = false := by
          unfold Lf
          by_cases hi : i < ops.size
          · simp [hi]
          · simp [Array.getElem?_eq_none (show (Array.replicate ops.size false).size ≤ i by simpa using hi)]
        rw [hl]
        simp
    have hl0 : ∀ j, Lf (Array.replicate ops.size false) j = false := by
      intro i
      unfold Lf
      by_cases hi : i < ops.size
      · simp [hi]
      · simp [Array.getElem?_eq_none (show (Array.replicate ops.size false).size ≤ i by simpa using hi)]
    have hcnt : cnt (Lf (Array.replicate ops.size false)) ops.size ≤ ops.size := cnt_le _ _
    have hmemn : ∀ j, n ≤ j → j < Sf.n → t.mem j = none := by
      intro j h1 h2
      cases hx : t.mem j with
      | none => rfl
      | some x =>
        obtain ⟨p, _, hp, _⟩ := H.lies j x hx
        rw [hf j h1 h2] at hp; cases hp
    have I : INV P F ih ops σ w t.mem n ts Sf (canon ops.toList) { ts, t, n, lm := 0, hist := [(0, n, t)] } 0 (Lf (Array.replicate ops.size false)) fr.tmps w.drew σ := by
      refine ⟨hev, by simpa using hord, fun j hj => (by simp at hj), fun j _ hj => (by rw [hl0 j] at hj; cases hj), fun j o hj => (by simp at hj), List.mem_cons_self, fun e k o hm => (by simp at hm), ?_, hmemn, fun j h1 h2 _ => hf j h1 h2, fun x v hx hv => ?_, fun x v hx hv => ?_, fun _ _ => rfl, (by rw [hts.1, Array.length_toList]), rfl, fun j o e _ hj => (by dsimp only at hj; rw [hl0 j] at hj; cases hj), Nat.le_refl _⟩
      · have e0 := (Ext.refl (n := n) H).drewR
        have e1 : Ext t.mem n Sf.n σ σ t.mem w w.drew := ⟨hle, e0.more, fun i p hi => .inl hi, e0.holds, e0.os, e0.tape, e0.output, e0.size, e0.frame, fun i o hi => .inl ⟨o, hi⟩, e0.place⟩
        refine e1.congr fun j => ?_
        rw [hex _ _ hev]
        dsimp only
        cases t.mem j <;> rfl
      · -- no operation that isn't done writes it: none writes it at all
        have hno : ∀ j ∈ canon ops.toList, dstIs ops.toList x j = false := by
          intro j hj
          cases hd : dstIs ops.toList x j with
          | false => rfl
          | true =>
            have hjs := (ordOK_not (by simpa using hord : ordOK ops.toList (ancs ops.toList []) ops.size (canon ops.toList) 0 = true) j hj).2
            have := hx j hjs hd
            rw [hl0 j] at this; cases this
        rw [(evDr_all hev).2.2 x hno] at hv
        obtain ⟨y, hy, hr⟩ := hts.get? hv
        exact ⟨y, by rw [← Array.getElem?_toList]; exact hy, hr⟩
      · obtain ⟨y, hy, hr⟩ := hts.get? hv
        exact ⟨y, by rw [← Array.getElem?_toList]; exact hy, hr⟩
    obtain ⟨σ', w', tm', e1, e2, e3⟩ := INV.run (k := k) (cs := cs) hF hih ops.size (w.tape w.drawn (.order fr.fn id)) (Array.replicate ops.size false) (canon ops.toList) _ 0
      { fr with todo := .inRegion ops (Region.linearise.go .any ops ops.size (w.tape w.drawn (.order fr.fn id)) (Array.replicate ops.size false) []) :: k } w.drew σ (by simp) hcnt I hm rfl
    exact ⟨σ', w', tm', e1, e2, .head hst e3⟩

end
end Ev
end Go.Proofs.YtgidmgkebkodoaaGreatDoor
