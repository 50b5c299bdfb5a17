/- A rune's bytes are the bytes that it was read of: plain arithmetic. -/
import Derived.Test.YtgeefnmgejnemaaDoorUtfSpec
import Derived.Lib.RuneBytes
namespace Go.Proofs.YtgeefnmgejnemaaDoor.Utf
set_option linter.unusedVariables false
set_option linter.unusedSimpArgs false
open Go.Lib
set_option maxRecDepth 100000 in
set_option maxHeartbeats 4000000 in
theorem decodeN_encode {n b0 b1 b2 b3 r k : Nat} (h0 : b0 < 256) (h1 : b1 < 256) (h2 : b2 < 256) (h3 : b3 < 256) (hn : 0 < n) (hd : decodeN n b0 b1 b2 b3 = (r, k)) (hb : (r, k) ≠ (65533, 1)) :
    k ≤ n ∧ ((k = 1 ∧ encodeRuneZ (r : Int) = [(b0 : Int)]) ∨ (k = 2 ∧ encodeRuneZ (r : Int) = [(b0 : Int), (b1 : Int)]) ∨ (k = 3 ∧ encodeRuneZ (r : Int) = [(b0 : Int), (b1 : Int), (b2 : Int)]) ∨ (k = 4 ∧ encodeRuneZ (r : Int) = [(b0 : Int), (b1 : Int), (b2 : Int), (b3 : Int)])) := by
  unfold decodeN at hd
  split at hd
  · injection hd with e1 e2
    subst e1 e2
    exact ⟨by omega, .inl ⟨rfl, encodeRuneZ_one (by omega) (by omega)⟩⟩
  split at hd
  · split at hd
    · injection hd with e1 e2
      subst e2
      refine ⟨by omega, .inr (.inl ⟨rfl, ?_⟩)⟩
      rw [encodeRuneZ_two (by omega) (by omega)]
      congr 1
      · omega
      · congr 1; omega
    · exact absurd hd.symm hb
  split at hd
  · split at hd
    · injection hd with e1 e2
      subst e2
      refine ⟨by omega, .inr (.inr (.inl ⟨rfl, ?_⟩))⟩
      rw [encodeRuneZ_three (by omega)]
      congr 1
      · omega
      · congr 1
        · omega
        · congr 1; omega
    · exact absurd hd.symm hb
  split at hd
  · split at hd
    · injection hd with e1 e2
      subst e2
      refine ⟨by omega, .inr (.inr (.inr ⟨rfl, ?_⟩))⟩
      rw [encodeRuneZ_four (by omega) (by omega)]
      congr 1
      · omega
      · congr 1
        · omega
        · congr 1
          · omega
          · congr 1; omega
    · exact absurd hd.symm hb
  exact absurd hd.symm hb
theorem u8_back (x : UInt8) : ((x.toNat : Int).toNat.toUInt8) = x := by
  apply UInt8.toNat_inj.1
  simp
theorem getD_eq {l : List UInt8} {i : Nat} (h : i < l.length) : l[i]? = some (l.getD i 0) := by simp [List.getD, h]
theorem take_list {l : List UInt8} {k : Nat} (hk : k ≤ l.length) : l.take k = (List.range k).map fun i => l.getD i 0 := by
  apply List.ext_getElem?
  intro i
  rw [List.getElem?_take, List.getElem?_map]
  by_cases h : i < k
  · rw [if_pos h, List.getElem?_range h]
    exact getD_eq (by omega)
  · rw [if_neg h, List.getElem?_eq_none (by simpa using h)]
    rfl
/-- The bytes of the rune that was read. -/
theorem at1_encode {l : List UInt8} (h : (at1 l).2 ≠ 0) : encodeRune ((at1 l).1 : Int) = l.take (at1 l).2 := by
  by_cases hc : l = [] ∨ decodeL l = (65533, 1)
  · exact absurd (by unfold at1; rw [if_pos hc]) h
  have ha : at1 l = decodeL l := by unfold at1; rw [if_neg hc]
  rw [ha]
  have hne : l ≠ [] := fun e => hc (.inl e)
  have hb : decodeL l ≠ (65533, 1) := fun e => hc (.inr e)
  obtain ⟨r, k, hd⟩ : ∃ r k, decodeL l = (r, k) := ⟨_, _, rfl⟩
  rw [hd] at hb ⊢
  rw [decodeL_N] at hd
  obtain ⟨hk, hr⟩ := decodeN_encode (l.getD 0 0).toNat_lt (l.getD 1 0).toNat_lt (l.getD 2 0).toNat_lt (l.getD 3 0).toNat_lt (List.length_pos_iff.2 hne) hd hb
  rw [take_list hk]
  unfold encodeRune
  rcases hr with ⟨rfl, e⟩ | ⟨rfl, e⟩ | ⟨rfl, e⟩ | ⟨rfl, e⟩ <;> simp only [e, List.map_cons, List.map_nil, u8_back] <;> rfl
end Go.Proofs.YtgeefnmgejnemaaDoor.Utf
