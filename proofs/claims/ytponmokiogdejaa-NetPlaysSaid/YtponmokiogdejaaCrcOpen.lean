import Derived.Test.YtponmokiogdejaaCrcSeal
import Derived.Test.YtponmokiogdejaaCrcRef3
namespace Go.Proofs.Ytponmokiogdejaa
open Go.RowKit Crc

/-- What was sealed, if it was; else nothing. -/
def opened (l : List UInt8) : List UInt8 := if sealed l then l.take (l.length - 4) else []
theorem opened_le (l : List UInt8) : (opened l).length ≤ l.length := by
  unfold opened
  split
  · rw [List.length_take]; omega
  · simp
def OpenM (w : World) (l : List UInt8) (e : Ending) (w' : World) : Prop :=
  ∃ v, e = .returned (.tuple #[v, .bool (sealed l)]) ∧ w'.ownsRow w.heap.size 5 1 v (opened l).length ((opened l).map u8v) ∧ Below w.heap.size w w'
def OpenR (w : World) (B : Nat) (l : List UInt8) (e : Ending) (w' : World) : Prop :=
  ∃ A c, e = .returned (.tuple #[.slice A (opened l).length c, .bool (sealed l)]) ∧ At w' B 1 A (opened l).length ((opened l).map u8v) ∧ (opened l).length ≤ c ∧ Below w.heap.size w w'

set_option maxHeartbeats 1000000 in
theorem open_any (A : Option Addr) (c B : Nat) (l : List UInt8) (w : World) (h1 : At w B 1 A l.length (l.map u8v)) (hB : B ≤ w.heap.size) (hc : l.length ≤ c) (hm : l.length ≤ 140737488355328) :
    Calls Try.prog 51 #[.slice A l.length c] w (OpenM w l) := by
  by_cases h4 : l.length < 4
  · have hs : sealed l = false := by unfold sealed; simp; omega
    have ho : opened l = [] := by unfold opened; rw [hs]; rfl
    have HO : Hid (OpenM w l (.returned (.tuple #[.slice none 0 0, .bool false])) w) := ⟨_, by rw [hs], by rw [ho]; exact World.ownsRow_nil _ _ _ _, Below.refl _ _⟩
    clear hs ho
    go_enter Try.func51, Try.ntmps51
    go_wp2
    go_ret2
    exact HO.out
  · have hl4 : (l.take (l.length - 4)).length = l.length - 4 := by rw [List.length_take]; omega
    have htk : At w B 1 A (l.take (l.length - 4)).length ((l.take (l.length - 4)).map u8v) := by
      have := h1.take (k := l.length - 4) (cap := c) (by omega) hc
      rw [Nat.mul_one, ← List.map_take] at this
      rw [hl4]
      exact this
    have c1 := seal_any A c B (l.take (l.length - 4)) w htk hB (by omega)
    rw [hl4] at c1
    have hq : sealed l = (seal_ (l.take (l.length - 4)) == l) := by unfold sealed; simp; omega
    obtain ⟨q, hq2⟩ : ∃ q, q = (seal_ (l.take (l.length - 4)) == l) := ⟨_, rfl⟩
    have HS : Hid (sealed l = q) := by rw [hq2]; exact hq
    have HQ := Lib.hid hq2
    clear hq hq2
    have HL := Lib.hid hl4
    clear hl4
    go_enter Try.func51, Try.ntmps51
    go_wp2_with fail
    refine c1.mono ?_
    rintro e w1 ⟨v, rfl, hown, hb⟩
    obtain ⟨A2, c2, rfl, _, _, hat⟩ := own_slice hown
    have c2 := equal_any A2 A c2 c w1.heap.size (seal_ (l.take (l.length - 4))) l w1 hat ((h1.below hb hB).more (Nat.le_trans hB hb.size)) (by rw [seal_len, HL.out]; omega)
    rw [← HQ.out] at c2
    clear hat hown
    cases q
    · go_wp2_with fail
      ((with_reducible refine c2.mono ?_); rintro e w2 ⟨rfl, hd⟩)
      have HO : Hid (OpenM w l (.returned (.tuple #[.slice none 0 0, .bool false])) w2) := ⟨_, by rw [HS.out], by unfold opened; rw [HS.out]; exact World.ownsRow_nil _ _ _ _, hb.trans (hd.below _)⟩
      clear htk HS HL HQ
      go_wp2
      go_ret2
      exact HO.out
    · go_wp2_with fail
      ((with_reducible refine c2.mono ?_); rintro e w2 ⟨rfl, hd⟩)
      have hb2 := hb.trans (hd.below _)
      have c3 := clone_any A c B (l.take (l.length - 4)) w2 (htk.below hb2 hB) (Nat.le_trans hB hb2.size) (by rw [HL.out]; omega)
      have HH : Hid (opened l = l.take (l.length - 4) ∧ sealed l = true) := by unfold opened; rw [HS.out]; exact ⟨rfl, rfl⟩
      rw [HL.out] at c3
      clear htk HS HQ
      go_wp2_with fail
      ((with_reducible refine c3.mono ?_); rintro e w3 ⟨v, rfl, hown3, hb3⟩)
      have HO : Hid (OpenM w l (.returned (.tuple #[v, .bool true])) w3) := ⟨_, by rw [HH.out.2], by rw [HH.out.1]; exact own_base hown3 hb2.size, hb2.trans (hb3.mono hb2.size)⟩
      clear hown3 HH HL
      go_wp2
      go_ret2
      exact HO.out
end Go.Proofs.Ytponmokiogdejaa
