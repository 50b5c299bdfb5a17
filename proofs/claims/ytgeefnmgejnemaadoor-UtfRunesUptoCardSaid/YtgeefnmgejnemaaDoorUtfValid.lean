import Derived.Test.YtgeefnmgejnemaaDoorUtfRef
import Derived.Test.YtgeefnmgejnemaaDoorShelf
namespace Go.Proofs.YtgeefnmgejnemaaDoor
open Go.RowKit Utf Go.Shelf
open Go.Lib (validD decodeL decodeL_N decodeN decodeL_width validD_step)

namespace Utf
theorem at1_width (l : List UInt8) : (at1 l).2 ≤ l.length := by
  unfold at1
  split
  · simp
  · rename_i h
    have hne : l ≠ [] := fun e => h (.inl e)
    have hl : 0 < l.length := List.length_pos_iff.2 hne
    have hb : decodeL l ≠ (65533, 1) := fun e => h (.inr e)
    rw [decodeL_N] at hb ⊢
    unfold decodeN at hb ⊢
    repeat' split
    all_goals first | (simp only; omega) | (exfalso; apply hb; simp_all)
theorem at1_zero {l : List UInt8} (h : l ≠ []) : (at1 l).2 = 0 ↔ decodeL l = (65533, 1) := by
  unfold at1
  split
  · rename_i h2
    rcases h2 with h2 | h2
    · exact absurd h2 h
    · simp [h2]
  · rename_i h2
    have hw := decodeL_width l
    constructor
    · intro e; omega
    · intro e; exact absurd (.inr e) h2
theorem at1_none_of {l : List UInt8} (h : (at1 l).2 = 0) : at1 l = (0, 0) := by
  unfold at1 at h ⊢
  split at h
  · rename_i h2; rw [if_pos h2]
  · have hw := decodeL_width l
    omega
theorem valid_at (l : List UInt8) (h : l ≠ []) : validD l = if (at1 l).2 = 0 then false else validD (l.drop (at1 l).2) := by
  rw [validD_step l h]
  have hz := at1_zero h
  by_cases e : decodeL l = (65533, 1)
  · rw [if_pos (by rw [e]; exact ⟨rfl, rfl⟩), if_pos (hz.2 e)]
  · have h0 : (at1 l).2 ≠ 0 := fun c => e (hz.1 c)
    have h1 : at1 l = decodeL l := by unfold at1; rw [if_neg (by simp [h, e])]
    rw [if_neg (fun c => e (Prod.ext c.1 c.2)), if_neg h0, h1]
theorem valid_drop (l : List UInt8) (k : Nat) (h : k < l.length) : validD (l.drop k) = if (at1 (l.drop k)).2 = 0 then false else validD (l.drop (k + (at1 (l.drop k)).2)) := by
  rw [valid_at _ (by intro e; have := congrArg List.length e; rw [List.length_drop] at this; simp at this; omega), List.drop_drop]
end Utf

def Tabs (w : World) : Prop := Lib.Utf8Tabs 0 1 w

theorem tabs_below {w w' : World} (hT : Tabs w) (hb : Below w.heap.size w w') : Tabs w' := Utf8Tabs_below hT hb

theorem utfValid_any (s : ByteArray) (w : World) (hs : s.size ≤ 9223372036854775807) (hT : Tabs w) :
    Calls Tryd.prog 9 #[.string s] w fun e w' => e = .returned (.bool (validD s.data.toList)) ∧ Below w.heap.size w w' := by
  have cV : Calls Tryd.prog 21 #[.string s] w _ := Any.utf8_ValidString Tryd.laysValid s w hs hT
  generalize validD s.data.toList = V at cV ⊢
  have HC := Lib.hid cV
  clear cV
  go_enter Tryd.func9, Tryd.ntmps9
  go_wp2_with (go_at_call 21; refine HC.out.mono ?_; rintro e w' ⟨rfl, hb⟩)
  go_ret
  exact ⟨rfl, hb⟩

set_option maxHeartbeats 1000000 in
theorem refValid_any (s : ByteArray) (w : World) (hs : s.size ≤ 1125899906842624) :
    Calls Tryd.prog 10 #[.string s] w fun e w' => e = .returned (.bool (validD s.data.toList)) ∧ w' = w := by
  obtain ⟨V, hV⟩ : ∃ V, V = validD s.data.toList := ⟨_, rfl⟩
  have HL := Lib.hid (Lib.size_eq s)
  have hV0 : Hid (V = validD (s.data.toList.drop 0)) := by rw [hV]; rfl
  rw [← hV]
  clear hV
  go_enter Tryd.func10, Tryd.ntmps10
  go_wp2
  go_loopw [3, 4, 5] (fun i _ _ wr => wr = w ∧ ∃ k : Nat, k ≤ s.size ∧ i = .int .i64 k ∧ Hid (V = validD (s.data.toList.drop k))) (fun i _ _ _ => s.size - (intOf i).toNat)
  case atStart => exact ⟨rfl, 0, Nat.zero_le _, rfl, hV0⟩
  case round =>
    obtain ⟨rfl, k, hk, rfl, HV⟩ := hrel
    clear hV0
    by_cases hlt : k < s.size
    · have hst := valid_drop s.data.toList k (by rw [← HL.out]; exact hlt)
      rw [← HV.out] at hst
      have hw := at1_width (s.data.toList.drop k)
      rw [List.length_drop, ← HL.out] at hw
      have c1 := refAt_any s k wr hk hs
      obtain ⟨p, hp⟩ : ∃ p, p = at1 (s.data.toList.drop k) := ⟨_, rfl⟩
      rw [← hp] at hst hw c1
      obtain ⟨r, n⟩ := p
      by_cases hn : n = 0
      · rw [if_pos hn] at hst
        have HS := Lib.hid hst
        have HC := Lib.hid c1
        have hn' : ((n : Int) == 0) = true := by rw [hn]; rfl
        clear hst c1 hp
        unfold tupN at HC
        go_wp2_with fail
        ((with_reducible refine HC.out.mono ?_); rintro e w1 ⟨rfl, rfl⟩)
        go_wp2
        go_ret
        exact ⟨by rw [HS.out] <;> rfl, rfl⟩
      · rw [if_neg hn] at hst
        have HS := Lib.hid hst
        have HC := Lib.hid c1
        have hn' : ((n : Int) == 0) = false := by rw [beq_eq_false_iff_ne]; omega
        clear hst c1 hp
        unfold tupN at HC
        go_wp2_with fail
        ((with_reducible refine HC.out.mono ?_); rintro e w1 ⟨rfl, rfl⟩)
        go_wp2
        go_roundw
        case rel => exact ⟨trivial, k + n, by omega, by go_num, HS⟩
        case measure => simp [intOf]; omega
    · have hend : V = true := by
        rw [HV.out, List.drop_eq_nil_of_le (by rw [← HL.out]; omega)]
        rfl
      have HE := Lib.hid hend
      clear hend
      go_wp2
      go_ret
      exact ⟨by rw [HE.out] <;> rfl, rfl⟩
end Go.Proofs.YtgeefnmgejnemaaDoor
