import Derived.Test.YthhgcjdfmnceaaaFrameSpoil
namespace Go.Proofs.Ythhgcjdfmnceaaa
open Go.RowKit Crc

/-- A byte, and the rest, of what reads so. -/
theorem At.cons {w : World} {B c : Nat} {A : Option Addr} {k : UInt8} {b : List UInt8} (h : At w B 1 A (k :: b).length ((k :: b).map u8v)) (hc : (k :: b).length ≤ c) :
    ∃ g o A2, A = some ⟨g, o, none⟩ ∧ w.cell? ⟨g, o, none⟩ = some (.int .u8 (k.toNat : Int)) ∧ (if c = 1 then some (⟨g, o, none⟩ : Addr) else some ⟨g, o + 1, none⟩) = A2 ∧ At w B 1 A2 b.length (b.map u8v) := by
  obtain ⟨g, o, e, hb, hcl⟩ := h.2 (by simp)
  refine ⟨g, o, _, e, hcl 0 _ rfl, rfl, ⟨by simp, fun hn => ⟨g, o + 1, ?_, hb, fun j u hu => ?_⟩⟩⟩
  · rw [if_neg]
    intro h1
    rw [h1, List.length_cons] at hc
    omega
  · have := hcl (j + 1) u (by simpa using hu)
    rw [show o + 1 + j = o + (j + 1) by omega]
    exact this

set_option maxHeartbeats 1000000 in
theorem refFrame_any (k : UInt8) (A : Option Addr) (c B : Nat) (l : List UInt8) (w : World) (h1 : At w B 1 A l.length (l.map u8v)) (hB : B ≤ w.heap.size) (hm : l.length + 5 ≤ 140737488355328) :
    Calls Try.prog 12 #[u8v k, .slice A l.length c] w (Ans2 w (frameL k l, frameE k)) := by
  by_cases hk : k = 0
  · have HE : Hid (Ans2 w (frameL k l, frameE k) (.returned (.tuple #[.slice none 0 0, .int .i64 2])) w) := by rw [hk]; exact ans2_none w w 2 (Below.refl _ _)
    have hk0 := u8_zero hk
    clear hk
    unfold u8v
    go_enter Try.func12, Try.ntmps12
    go_wp2
    go_ret2
    exact HE.out
  · have e1 : frameL k l = seal_ (k :: l) := by unfold frameL; rw [if_neg hk]
    have e2 : frameE k = 0 := by unfold frameE; rw [if_neg hk]
    have hk0 := u8_nonzero hk
    have HE : Hid (∀ W' A2 c2, Below w.heap.size w W' → At W' W'.heap.size 1 A2 (seal_ (k :: l)).length ((seal_ (k :: l)).map u8v) → (seal_ (k :: l)).length ≤ c2 → Ans2 w (frameL k l, frameE k) (.returned (.tuple #[.slice A2 (seal_ (k :: l)).length c2, .int .i64 0])) W') := fun W' A2 c2 hb hat hc => by rw [e1, e2]; exact ⟨A2, c2, rfl, hat, hc, hb⟩
    obtain ⟨i0, hi, hz0, hz1, hz2⟩ := info_parts info_u8
    have hown0 := ownsRow_one (base := w.heap.size) w k (by simp)
    have H0 := Lib.hid hown0
    have H2 := Lib.hid (h1.alloc hB (.cells #[.int .u8 (k.toNat : Int)] 5))
    have H3 : Hid (w.heap.size ≤ (w.alloc (.cells #[.int .u8 (k.toNat : Int)] 5)).heap.size) := by unfold Hid; simp
    clear hown0 hk e1 e2
    unfold u8v
    go_enter Try.func12, Try.ntmps12
    go_wp2_with (at_builtin; (refine wpList_append_from _ rfl _ _ 22 rfl w.heap.size 5 i0 (.int .u8 0) 1 1 Try.underlying22 hi hz0 hz1 hz2 rfl (by decide) _ 1 _ rfl H0.out B A l.length c (l.map u8v) rfl H2.out (one_u8 l) (by unfold maxLen; omega) (by omega) H3.out ?_); intro v1 w1 hown hg _)
    have hb : Below w.heap.size w w1 := ((Below.refl _ w).alloc (Nat.le_refl _) _).trans (grown_below H0.out hg H3.out)
    have hown2 : w1.ownsRow w.heap.size 5 1 v1 (k :: l).length ((k :: l).map u8v) := by rw [List.length_cons, Nat.add_comm]; exact hown
    obtain ⟨A1, c1, rfl, hc1, _, hat⟩ := own_slice hown2
    have c1 := refSeal_at A1 c1 w1.heap.size (k :: l) w1 hat (Nat.le_refl _) (by rw [List.length_cons]; omega)
    clear hown hown2 hg hat
    go_wp2_with fail
    refine c1.mono ?_
    rintro e w2 ⟨A2, c2, rfl, hat2, hc2, hb2⟩
    go_wp2
    go_ret2
    exact HE.out _ A2 c2 (bthen hb hb2) hat2 hc2

/-- What the document's opening answers: within what was handed in. -/
def RefOpen3 (w : World) (B : Nat) (p : UInt8 × List UInt8 × Nat) (e : Ending) (w' : World) : Prop :=
  ∃ A c, e = .returned (.tuple #[.int .u8 (p.1.toNat : Int), .slice A p.2.1.length c, .int .i64 (p.2.2 : Nat)]) ∧ At w' B 1 A p.2.1.length (p.2.1.map u8v) ∧ Below w.heap.size w w'
def RefAns2 (w : World) (B : Nat) (p : List UInt8 × Nat) (e : Ending) (w' : World) : Prop :=
  ∃ A c, e = .returned (.tuple #[.slice A p.1.length c, .int .i64 (p.2 : Nat)]) ∧ At w' B 1 A p.1.length (p.1.map u8v) ∧ Below w.heap.size w w'

set_option maxHeartbeats 1000000 in
theorem refFopen_any (A : Option Addr) (c B : Nat) (l : List UInt8) (w : World) (h1 : At w B 1 A l.length (l.map u8v)) (hB : B ≤ w.heap.size) (hc : l.length ≤ c) (hm : l.length ≤ 140737488355328) :
    Calls Try.prog 16 #[.slice A l.length c] w (RefOpen3 w B (openK l)) := by
  have c1 := refOpen_at A c B l w h1 hB hc hm
  unfold OpenR at c1
  cases hs : sealed l with
  | false =>
    have ho := opened_not hs
    have HE : Hid (∀ w', Below w.heap.size w w' → RefOpen3 w B (openK l) (.returned (.tuple #[.int .u8 0, .slice none 0 0, .int .i64 11])) w') := fun w' hb => by rw [open_none ho]; exact ⟨none, 0, rfl, At.nil _ _ _ _, hb⟩
    rw [hs] at c1
    have HC := Lib.hid c1
    clear c1 hs ho
    go_enter Try.func16, Try.ntmps16
    go_wp2_with fail
    refine HC.out.mono ?_
    rintro e w1 ⟨A1, c1, rfl, hat, hc1, hb⟩
    clear HC hat
    go_wp2
    go_ret3
    exact HE.out _ hb
  | true =>
    rw [hs] at c1
    cases ho : opened l with
    | nil =>
      rw [ho] at c1
      have HE : Hid (∀ w', Below w.heap.size w w' → RefOpen3 w B (openK l) (.returned (.tuple #[.int .u8 0, .slice none 0 0, .int .i64 11])) w') := fun w' hb => by rw [open_none ho]; exact ⟨none, 0, rfl, At.nil _ _ _ _, hb⟩
      have HC := Lib.hid c1
      clear c1 hs ho
      go_enter Try.func16, Try.ntmps16
      go_wp2_with fail
      refine HC.out.mono ?_
      rintro e w1 ⟨A1, c1, rfl, hat, hc1, hb⟩
      clear HC hat
      go_wp2
      go_ret3
      exact HE.out _ hb
    | cons k b =>
      rw [ho] at c1
      have hbl : b.length + 1 ≤ l.length := by have := opened_le l; rw [ho] at this; simpa using this
      have HC := Lib.hid c1
      by_cases hk : k = 0
      · have HE : Hid (∀ w', Below w.heap.size w w' → RefOpen3 w B (openK l) (.returned (.tuple #[.int .u8 0, .slice none 0 0, .int .i64 2])) w') := fun w' hb => by rw [open_zero (hk ▸ ho)]; exact ⟨none, 0, rfl, At.nil _ _ _ _, hb⟩
        have hk0 := u8_zero hk
        clear c1 hs ho hk
        go_enter Try.func16, Try.ntmps16
        go_wp2_with fail
        refine HC.out.mono ?_
        rintro e w1 ⟨A1, c1, rfl, hat, hc1, hb⟩
        obtain ⟨g, o, A2, rfl, hg, hA2, hat2⟩ := hat.cons hc1
        clear HC hat hat2 hA2
        go_wp2
        go_ret3
        exact HE.out _ hb
      · have HE : Hid (∀ W' A2 c2, Below w.heap.size w W' → At W' B 1 A2 b.length (b.map u8v) → RefOpen3 w B (openK l) (.returned (.tuple #[.int .u8 (k.toNat : Int), .slice A2 b.length c2, .int .i64 0])) W') := fun w' A2 c2 hb hat => by rw [open_some ho hk]; exact ⟨A2, c2, rfl, hat, hb⟩
        have hk0 := u8_nonzero hk
        clear c1 hs ho hk
        go_enter Try.func16, Try.ntmps16
        go_wp2_with fail
        refine HC.out.mono ?_
        rintro e w1 ⟨A1, c1, rfl, hat, hc1, hb⟩
        obtain ⟨g, o, A2, rfl, hg, hA2, hat2⟩ := hat.cons hc1
        have hbc : b.length + 1 ≤ c1 := by simpa using hc1
        have hb1 : (1 : Int) ≤ (b.length : Int) + 1 := by omega
        have HT := Lib.hid hat2
        clear HC hat hat2 hc1
        go_wp2
        go_quiet (fail)
        go_wp2
        go_ret3
        exact HE.out _ A2 (c1 - 1) (Below.drewN' hb _) (HT.out.drewN _)

set_option maxHeartbeats 1000000 in
theorem refFbody_any (q : UInt8) (A : Option Addr) (c B : Nat) (l : List UInt8) (w : World) (h1 : At w B 1 A l.length (l.map u8v)) (hB : B ≤ w.heap.size) (hc : l.length ≤ c) (hm : l.length ≤ 140737488355328) :
    Calls Try.prog 18 #[u8v q, .slice A l.length c] w (RefAns2 w B (bodyK q l)) := by
  have c1 := refFopen_any A c B l w h1 hB hc hm
  have hbk : bodyK q l = if (openK l).2.2 ≠ 0 then ([], (openK l).2.2) else if (openK l).1 ≠ q then ([], 13) else ((openK l).2.1, 0) := rfl
  obtain ⟨⟨k, b, n⟩, hp⟩ : ∃ p, p = openK l := ⟨_, rfl⟩
  rw [← hp] at c1 hbk
  obtain ⟨P, hP⟩ : ∃ P, P = bodyK q l := ⟨_, rfl⟩
  rw [← hP] at hbk ⊢
  unfold RefOpen3 at c1
  have HC := Lib.hid c1
  clear c1 hp hP
  unfold u8v
  by_cases hn : n = 0
  · subst hn
    by_cases hk : k = q
    · subst hk
      have hkk : ((k.toNat : Int) != (k.toNat : Int)) = false := by simp
      have HE : Hid (∀ W' A2 c2, Below w.heap.size w W' → At W' B 1 A2 b.length (b.map u8v) → RefAns2 w B P (.returned (.tuple #[.slice A2 b.length c2, .int .i64 0])) W') := fun W' A2 c2 hb hat => by
        have e : P = (b, 0) := by rw [hbk]; simp
        rw [e]
        exact ⟨A2, c2, rfl, hat, hb⟩
      clear hbk
      go_enter Try.func18, Try.ntmps18
      go_wp2_with fail
      refine HC.out.mono ?_
      rintro e w1 ⟨A2, c2, rfl, hat, hb⟩
      clear HC
      have HT := Lib.hid hat
      clear hat
      go_wp2
      go_ret2
      exact HE.out _ A2 c2 hb HT.out
    · have hkk : ((k.toNat : Int) != (q.toNat : Int)) = true := by
        rw [bne_iff_ne]
        intro h
        exact hk (UInt8.toNat_inj.1 (by omega))
      have HE : Hid (∀ W', Below w.heap.size w W' → RefAns2 w B P (.returned (.tuple #[.slice none 0 0, .int .i64 13])) W') := fun W' hb => by
        have e : P = ([], 13) := by rw [hbk]; simp [hk]
        rw [e]
        exact ⟨none, 0, rfl, At.nil _ _ _ _, hb⟩
      clear hk hbk
      go_enter Try.func18, Try.ntmps18
      go_wp2_with fail
      refine HC.out.mono ?_
      rintro e w1 ⟨A2, c2, rfl, hat, hb⟩
      clear HC hat
      go_wp2
      go_ret2
      exact HE.out _ hb
  · have hnn : ((n : Int) != 0) = true := by rw [bne_iff_ne]; omega
    have HE : Hid (∀ W', Below w.heap.size w W' → RefAns2 w B P (.returned (.tuple #[.slice none 0 0, .int .i64 (n : Nat)])) W') := fun W' hb => by
      have e : P = ([], n) := by rw [hbk]; simp [hn]
      rw [e]
      exact ⟨none, 0, rfl, At.nil _ _ _ _, hb⟩
    clear hn hbk
    go_enter Try.func18, Try.ntmps18
    go_wp2_with fail
    refine HC.out.mono ?_
    rintro e w1 ⟨A2, c2, rfl, hat, hb⟩
    clear HC hat
    go_wp2
    go_ret2
    exact HE.out _ hb
end Go.Proofs.Ythhgcjdfmnceaaa
