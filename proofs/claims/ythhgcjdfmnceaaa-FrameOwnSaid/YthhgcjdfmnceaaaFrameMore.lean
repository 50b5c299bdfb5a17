import Derived.Test.YthhgcjdfmnceaaaFrameRead
namespace Go.Proofs.Ythhgcjdfmnceaaa
open Go.RowKit Crc

/-- What opening a frame answers: in memory of its own. -/
def OpenO (w : World) (p : UInt8 × List UInt8 × Nat) (e : Ending) (w' : World) : Prop :=
  ∃ A c, e = .returned (.tuple #[.int .u8 (p.1.toNat : Int), .slice A p.2.1.length c, .int .i64 (p.2.2 : Nat)]) ∧ Own w' w.heap.size A p.2.1 ∧ p.2.1.length ≤ c ∧ Below w.heap.size w w'
/-- What opening a frame answers. -/
def Open3 (w : World) (p : UInt8 × List UInt8 × Nat) (e : Ending) (w' : World) : Prop :=
  ∃ A c, e = .returned (.tuple #[.int .u8 (p.1.toNat : Int), .slice A p.2.1.length c, .int .i64 (p.2.2 : Nat)]) ∧ At w' w'.heap.size 1 A p.2.1.length (p.2.1.map u8v) ∧ p.2.1.length ≤ c ∧ Below w.heap.size w w'
theorem OpenO.open {w : World} {p : UInt8 × List UInt8 × Nat} {e : Ending} {w' : World} (h : OpenO w p e w') : Open3 w p e w' := by
  obtain ⟨A, c, he, ho, hc, hb⟩ := h
  exact ⟨A, c, he, ho.at, hc, hb⟩

set_option maxHeartbeats 1000000 in
theorem fopen_own (A : Option Addr) (c B : Nat) (l : List UInt8) (w : World) (h1 : At w B 1 A l.length (l.map u8v)) (hB : B ≤ w.heap.size) (hc : l.length ≤ c) (hm : l.length ≤ 140737488355328) :
    Calls Try.prog 15 #[.slice A l.length c] w (OpenO w (openK l)) := by
  have c1 := read_any A c B l w h1 hB hc hm
  obtain ⟨⟨k, b, n⟩, hp⟩ : ∃ p, p = openK l := ⟨_, rfl⟩
  rw [← hp] at c1 ⊢
  unfold Read3 at c1
  have HE : Hid (∀ W' A2 c2, Below w.heap.size w W' → Own W' w.heap.size A2 b → b.length ≤ c2 → OpenO w (k, b, n) (.returned (.tuple #[.int .u8 (k.toNat : Int), .slice A2 b.length c2, .int .i64 (n : Nat)])) W') := fun W' A2 c2 hb hat hc => ⟨A2, c2, rfl, hat, hc, hb⟩
  have HC := Lib.hid c1
  clear c1 hp
  go_enter Try.func15, Try.ntmps15
  go_wp2_with fail
  refine HC.out.mono ?_
  rintro e w1 ⟨A2, c2, rfl, hat, hc2, hb⟩
  clear HC
  have HT := Lib.hid hat
  clear hat
  go_wp2
  go_quiet (fail)
  go_wp2
  go_ret3
  exact HE.out _ A2 c2 (Below.drewN' (hb.alloc hb.size _) _) (HT.out.below (Below.drewN' ((Below.refl _ w1).alloc (Nat.le_refl _) _) _)) hc2

set_option maxHeartbeats 1000000 in
theorem fbody_own (q : UInt8) (A : Option Addr) (c B : Nat) (l : List UInt8) (w : World) (h1 : At w B 1 A l.length (l.map u8v)) (hB : B ≤ w.heap.size) (hc : l.length ≤ c) (hm : l.length ≤ 140737488355328) :
    Calls Try.prog 17 #[u8v q, .slice A l.length c] w (AnsO w (bodyK q l)) := by
  have c1 := read_any A c B l w h1 hB hc hm
  have hbk : bodyK q l = if (openK l).2.2 ≠ 0 then ([], (openK l).2.2) else if (openK l).1 ≠ q then ([], 13) else ((openK l).2.1, 0) := rfl
  obtain ⟨⟨k, b, n⟩, hp⟩ : ∃ p, p = openK l := ⟨_, rfl⟩
  rw [← hp] at c1 hbk
  obtain ⟨P, hP⟩ : ∃ P, P = bodyK q l := ⟨_, rfl⟩
  rw [← hP] at hbk ⊢
  unfold Read3 at c1
  have HC := Lib.hid c1
  clear c1 hp hP
  unfold u8v
  by_cases hn : n = 0
  · subst hn
    by_cases hk : k = q
    · subst hk
      have hkk : ((k.toNat : Int) == (k.toNat : Int)) = true := by simp
      have HE : Hid (∀ W' A2 c2, Below w.heap.size w W' → Own W' w.heap.size A2 b → b.length ≤ c2 → AnsO w P (.returned (.tuple #[.slice A2 b.length c2, .int .i64 0])) W') := fun W' A2 c2 hb hat hc => by
        have e : P = (b, 0) := by rw [hbk]; simp
        rw [e]
        exact ⟨A2, c2, rfl, hat, hc, hb⟩
      clear hbk
      go_enter Try.func17, Try.ntmps17
      go_wp2_with fail
      refine HC.out.mono ?_
      rintro e w1 ⟨A2, c2, rfl, hat, hc2, hb⟩
      clear HC
      have HT := Lib.hid hat
      clear hat
      go_wp2
      go_ret2
      exact HE.out _ A2 c2 (hb.alloc hb.size _) (HT.out.below ((Below.refl _ w1).alloc (Nat.le_refl _) _)) hc2
    · have hkk : ((k.toNat : Int) == (q.toNat : Int)) = false := by
        rw [beq_eq_false_iff_ne]
        intro h
        exact hk (UInt8.toNat_inj.1 (by omega))
      have HE : Hid (∀ W', Below w.heap.size w W' → AnsO w P (.returned (.tuple #[.slice none 0 0, .int .i64 13])) W') := fun W' hb => by
        have e : P = ([], 13) := by rw [hbk]; simp [hk]
        rw [e]
        exact ansO_none w W' 13 hb
      clear hk hbk
      go_enter Try.func17, Try.ntmps17
      go_wp2_with fail
      refine HC.out.mono ?_
      rintro e w1 ⟨A2, c2, rfl, hat, hc2, hb⟩
      clear HC hat
      go_wp2
      go_ret2
      exact HE.out _ (hb.alloc hb.size _)
  · have hnn : ((n : Int) != 0) = true := by rw [bne_iff_ne]; omega
    have HE : Hid (∀ W', Below w.heap.size w W' → AnsO w P (.returned (.tuple #[.slice none 0 0, .int .i64 (n : Nat)])) W') := fun W' hb => by
      have e : P = ([], n) := by rw [hbk]; simp [hn]
      rw [e]
      exact ansO_none w W' n hb
    clear hn hbk
    go_enter Try.func17, Try.ntmps17
    go_wp2_with fail
    refine HC.out.mono ?_
    rintro e w1 ⟨A2, c2, rfl, hat, hc2, hb⟩
    clear HC hat
    go_wp2
    go_ret2
    exact HE.out _ (hb.alloc hb.size _)

theorem fopen_any (A : Option Addr) (c B : Nat) (l : List UInt8) (w : World) (h1 : At w B 1 A l.length (l.map u8v)) (hB : B ≤ w.heap.size) (hc : l.length ≤ c) (hm : l.length ≤ 140737488355328) :
    Calls Try.prog 15 #[.slice A l.length c] w (Open3 w (openK l)) := (fopen_own A c B l w h1 hB hc hm).mono fun _ _ h => h.open
theorem fbody_any (q : UInt8) (A : Option Addr) (c B : Nat) (l : List UInt8) (w : World) (h1 : At w B 1 A l.length (l.map u8v)) (hB : B ≤ w.heap.size) (hc : l.length ≤ c) (hm : l.length ≤ 140737488355328) :
    Calls Try.prog 17 #[u8v q, .slice A l.length c] w (Ans2 w (bodyK q l)) := (fbody_own q A c B l w h1 hB hc hm).mono fun _ _ h => h.ans
end Go.Proofs.Ythhgcjdfmnceaaa
