import Derived.Test.YthhgcjdfmnceaaaCrcRef2
namespace Go.Proofs.Ythhgcjdfmnceaaa
open Go.RowKit Crc

/-- What was sealed, if it was. -/
def OpenB (A : Option Addr) (c : Nat) (l : List UInt8) (w : World) (e : Ending) (w' : World) : Prop :=
  e = .returned (.tuple #[if sealed l then .slice A (l.length - 4) c else .slice none 0 0, .bool (sealed l)]) ∧ Below w.heap.size w w'

set_option maxHeartbeats 1000000 in
theorem refOpen_any (A : Option Addr) (c B : Nat) (l : List UInt8) (w : World) (h1 : At w B 1 A l.length (l.map u8v)) (hB : B ≤ w.heap.size) (hc : l.length ≤ c) (hm : l.length ≤ 140737488355328) :
    Calls Try.prog 26 #[.slice A l.length c] w (OpenB A c l w) := by
  by_cases h4 : l.length < 4
  · have hs : Hid (sealed l = false) := by unfold Hid sealed; simp; omega
    go_enter Try.func26, Try.ntmps26
    go_wp2
    go_ret2
    exact ⟨by rw [hs.out]; rfl, Below.refl _ _⟩
  · have hl4 : (l.take (l.length - 4)).length = l.length - 4 := by rw [List.length_take]; omega
    have htk : At w B 1 A (l.take (l.length - 4)).length ((l.take (l.length - 4)).map u8v) := by
      have := h1.take (k := l.length - 4) (cap := c) (by omega) hc
      rw [Nat.mul_one, ← List.map_take] at this
      rw [hl4]
      exact this
    have c1 := refSeal_any A c B (l.take (l.length - 4)) w htk hB (by omega)
    rw [hl4] at c1
    have hq : sealed l = (seal_ (l.take (l.length - 4)) == l) := by unfold sealed; simp; omega
    obtain ⟨q, hq2⟩ : ∃ q, q = (seal_ (l.take (l.length - 4)) == l) := ⟨_, rfl⟩
    have HS : Hid (sealed l = q) := by rw [hq2]; exact hq
    have HQ := Lib.hid hq2
    clear hq hq2 htk
    have HL := Lib.hid hl4
    clear hl4
    go_enter Try.func26, Try.ntmps26
    go_wp2_with fail
    refine c1.mono ?_
    rintro e w1 ⟨v, rfl, hown, hb⟩
    obtain ⟨A2, c2, rfl, _, _, hat⟩ := own_slice hown
    have c2 := same_any A2 A c2 c w1.heap.size (seal_ (l.take (l.length - 4))) l w1 hat ((h1.below hb hB).more (Nat.le_trans hB hb.size)) (by rw [seal_len, HL.out]; omega)
    rw [← HQ.out] at c2
    clear hat hown
    cases q
    · go_wp2_with fail
      ((with_reducible refine c2.mono ?_); rintro e w2 ⟨rfl, hd⟩)
      go_wp2
      go_ret2
      exact ⟨by rw [HS.out]; rfl, hb.trans (hd.below _)⟩
    · go_wp2_with fail
      ((with_reducible refine c2.mono ?_); rintro e w2 ⟨rfl, hd⟩)
      go_wp2
      go_ret2
      exact ⟨by rw [HS.out]; rfl, hb.trans (hd.below _)⟩
end Go.Proofs.Ythhgcjdfmnceaaa
