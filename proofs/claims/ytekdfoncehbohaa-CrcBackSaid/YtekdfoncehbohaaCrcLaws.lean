/- CrcSeals answers true at every input, and every argument reads afterwards as it did: 'crcSeals_proved'. Conditions: none but the statement's own. -/
import Derived.Test.YtekdfoncehbohaaCrcSums
namespace Go.Proofs.Ytekdfoncehbohaa
open Go.RowKit Crc

/-- The call answers bytes in memory of its own, read as a slice. -/
def MadeA (w : World) (l : List UInt8) (e : Ending) (w' : World) : Prop :=
  ∃ A c, e = .returned (.slice A l.length c) ∧ At w' w'.heap.size 1 A l.length (l.map u8v) ∧ l.length ≤ c ∧ Below w.heap.size w w'
theorem MadeB.at {w w' : World} {l : List UInt8} {e : Ending} (h : MadeB w l e w') : MadeA w l e w' := by
  obtain ⟨v, rfl, hown, hb⟩ := h
  obtain ⟨A, c, rfl, hc, _, hat⟩ := own_slice hown
  exact ⟨A, c, rfl, hat, hc, hb⟩
theorem own_at (A : Option Addr) (c B : Nat) (l : List UInt8) (w : World) (h1 : At w B 1 A l.length (l.map u8v)) (hm : l.length ≤ 140737488355328) :
    Calls Try.prog 11 #[.slice A l.length c] w (MadeA w l) := (own_any A c B l w h1 hm).mono fun _ _ h => h.at
theorem seal_at (A : Option Addr) (c B : Nat) (l : List UInt8) (w : World) (h1 : At w B 1 A l.length (l.map u8v)) (hB : B ≤ w.heap.size) (hm : l.length + 4 ≤ 140737488355328) :
    Calls Try.prog 16 #[.slice A l.length c] w (MadeA w (seal_ l)) := (seal_any A c B l w h1 hB hm).mono fun _ _ h => h.at
theorem refSeal_at (A : Option Addr) (c B : Nat) (l : List UInt8) (w : World) (h1 : At w B 1 A l.length (l.map u8v)) (hB : B ≤ w.heap.size) (hm : l.length + 4 ≤ 140737488355328) :
    Calls Try.prog 20 #[.slice A l.length c] w (MadeA w (seal_ l)) := (refSeal_any A c B l w h1 hB hm).mono fun _ _ h => h.at
theorem open_at (A : Option Addr) (c B : Nat) (l : List UInt8) (w : World) (h1 : At w B 1 A l.length (l.map u8v)) (hB : B ≤ w.heap.size) (hc : l.length ≤ c) (hm : l.length ≤ 140737488355328) :
    Calls Try.prog 17 #[.slice A l.length c] w fun e w' => ∃ A' c', e = .returned (.tuple #[.slice A' (opened l).length c', .bool (sealed l)]) ∧ At w' w'.heap.size 1 A' (opened l).length ((opened l).map u8v) ∧ (opened l).length ≤ c' ∧ Below w.heap.size w w' := by
  refine (open_any A c B l w h1 hB hc hm).mono fun e w' ⟨v, he, hown, hb⟩ => ?_
  obtain ⟨A, c, rfl, hc, _, hat⟩ := own_slice hown
  exact ⟨A, c, he, hat, hc, hb⟩

set_option maxHeartbeats 1000000 in
theorem crcSeals_walk (A : Option Addr) (c : Nat) (l : List UInt8) (w : World) (h1 : At w w.heap.size 1 A l.length (l.map u8v)) (hlc : l.length ≤ c) (hm : c ≤ 140737488351232) :
    Calls Try.prog 5 #[.slice A l.length c] w fun e w' => e = .returned (.bool true) ∧ Below w.heap.size w w' := by
  have hol := opened_le l
  have S1 : (seal_ l == seal_ l) = true := by simp
  have S2 : (opened l == opened l) = true := by simp
  have S3 : (sealed l == sealed l) = true := by simp
  have HL := Lib.hid (seal_len l)
  go_enter Try.func5, Try.ntmps5
  go_wp2_with fail
  refine (own_at A c w.heap.size l w h1 (by omega)).mono ?_
  rintro e w1 ⟨A1, c1, rfl, hat1, _, hb1⟩
  go_wp2_with fail
  refine (seal_at A1 c1 w1.heap.size l w1 hat1 (Nat.le_refl _) (by omega)).mono ?_
  rintro e w2 ⟨A2, c2, rfl, hat2, _, hb2⟩
  have k2 := hb1.trans (hb2.mono hb1.size)
  clear hat1
  go_wp2_with fail
  refine (own_at A c w.heap.size l w2 (h1.below k2 (Nat.le_refl _)) (by omega)).mono ?_
  rintro e w3 ⟨A3, c3, rfl, hat3, hc3, hb3⟩
  have k3 := k2.trans (hb3.mono k2.size)
  go_wp2_with fail
  refine (open_at A3 c3 w3.heap.size l w3 hat3 (Nat.le_refl _) hc3 (by omega)).mono ?_
  rintro e w4 ⟨A4, c4, rfl, hat4, hc4, hb4⟩
  have k4 := k3.trans (hb4.mono k3.size)
  clear hat3
  go_wp2_with fail
  refine (refOpen_at A c w.heap.size l w4 (h1.below k4 (Nat.le_refl _)) k4.size hlc (by omega)).mono ?_
  rintro e w5 ⟨A5, c5, rfl, hat5, hc5, hb5⟩
  have k5 := k4.trans (hb5.mono k4.size)
  go_wp2_with fail
  refine (refSeal_at A c w.heap.size l w5 (h1.below k5 (Nat.le_refl _)) k5.size (by omega)).mono ?_
  rintro e w6 ⟨A6, c6, rfl, hat6, hc6, hb6⟩
  have k6 := k5.trans (hb6.mono k5.size)
  have m26 : Below w2.heap.size w2 w6 := (hb3.trans (hb4.mono hb3.size)).trans ((hb5.mono (hb3.trans (hb4.mono hb3.size)).size).trans (hb6.mono ((hb3.trans (hb4.mono hb3.size)).trans (hb5.mono (hb3.trans (hb4.mono hb3.size)).size)).size))
  have cs := same_any A2 A6 c2 c6 w6.heap.size (seal_ l) (seal_ l) w6 ((hat2.below m26 (Nat.le_refl _)).more m26.size) hat6 (by rw [HL.out]; omega)
  rw [S1] at cs
  have HC := Lib.hid cs
  clear cs
  go_wp2_with fail
  refine HC.out.mono ?_
  rintro e w7 ⟨rfl, hd7⟩
  clear HC
  have k7 := k6.trans (hd7.below _)
  go_wp2_with fail
  have m47 : Below w4.heap.size w4 w7 := (hb5.trans (hb6.mono hb5.size)).trans (hd7.below _)
  have cs := same_any A4 A5 c4 c5 w7.heap.size (opened l) (opened l) w7 ((hat4.below m47 (Nat.le_refl _)).more m47.size) (((hat5.below hb6 (Nat.le_trans k4.size hb5.size)).below (hd7.below _) (Nat.le_refl _)).more (k7.size)) (by omega)
  rw [S2] at cs
  have HC := Lib.hid cs
  clear cs
  refine HC.out.mono ?_
  rintro e w8 ⟨rfl, hd8⟩
  clear HC
  have k8 := k7.trans (hd8.below _)
  go_wp2_with fail
  refine (known_any w8).mono ?_
  rintro e w9 ⟨rfl, hb9⟩
  have k9 := k8.trans (hb9.mono k8.size)
  go_wp2
  go_ret
  exact ⟨rfl, k9⟩

open Go.ChangeShapes Go.WideShapes in
open Go.ChangeMaps (open_string) in
theorem crcSeals_law : LawWalk Try.prog 5 Try.f5 := by
  intro H enc W base args ds p hval hA hsz
  rw [Try.params5] at hA hval hsz
  obtain ⟨v0, vs0, d0, ds0, p0, q0, hargs, rfl, rfl, h0, r0⟩ := trodAll_cons hA
  obtain ⟨rfl, rfl, rfl⟩ := trodAll_nil r0
  obtain rfl : args = #[v0] := by cases args; simp_all
  obtain ⟨A0, c0, l0, rfl, hat0, hlc0, hd0⟩ := open_bytes Try.underlying22 Try.underlying5 (by kernel_rfl) (hval 0 _ v0 rfl rfl) h0
  exact crcSeals_walk A0 c0 l0 W hat0 hlc0 (bytes_reach hsz (j := 0) rfl rfl hlc0 hd0).2

set_option maxRecDepth 100000 in
theorem crcSeals_lifted (os : Os) (started : os.Started) (H : Type) (enc : TypeId × Value → H) :
    ReturnsInHanded {} Try.checked os 5 .any (Rows.crcSealsSpec.pre6 enc Try.prog Try.f5 Rows.crcSealsRow.domain false) (Rows.crcSealsSpec.post enc Try.prog Try.f5 false true false false) :=
  law_lifted (s := Rows.crcSealsSpec) started (by kernel_rfl) Try.func5 Try.underlying4 rfl rfl
    (by rw [Try.params5]; simp only [List.mem_cons, List.not_mem_nil, or_false, forall_eq]; exact ⟨by kernel_rfl, of_decide_eq_true (by kernel_rfl)⟩)
    (fun H ds hl => by match ds, hl with | [_], _ => rfl)
    (ChangeSpec.witness6 (enc := enc) (C := Try.checked) false ⟨#[], #[.slice none 0 0], []⟩ 8 (by kernel_rfl) (by kernel_rfl) (by kernel_rfl) (by kernel_rfl)) crcSeals_law

theorem crcSeals_over : Rows.crcSealsRow.holds Try.pinned (OpenSpec.ofChange Rows.crcSealsSpec) :=
  OpenClaim.holds_of_wide 5 Try.f5 rfl rfl rfl rfl rfl rfl rfl ⟨rfl, rfl, rfl, rfl, rfl⟩ rfl rfl rfl rfl rfl (by kernel_rfl) Try.func5 (by kernel_rfl)
    (of_decide_eq_true (by kernel_rfl)) (by unfold Func.isWrapper; first | (rw [if_pos (by decide +kernel)]; kernel_rfl) | (rw [if_neg (by decide +kernel)]; exact ⟨rfl, rfl⟩))
    (fun os started H enc _ => crcSeals_lifted os started H enc)

theorem crcSeals_proved : Rows.CrcSealsSaid := crcSeals_over

end Go.Proofs.Ytekdfoncehbohaa
