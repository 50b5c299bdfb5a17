/- Rows of entries of one make, copied. -/
import Derived.Test.YtkdlfgfjahnhmaaLogTrees
namespace Go.Proofs.Ytkdlfgfjahnhmaa
open Go.RowKit
set_option linter.unusedSimpArgs false
set_option linter.unusedVariables false
def entsV (ks : List ByteArray) : List Value := ks.flatMap entC
theorem entsV_len (ks : List ByteArray) : (entsV ks).length = ks.length * 7 := by
  induction ks with
  | nil => rfl
  | cons k ks ih =>
    have : entsV (k :: ks) = entC k ++ entsV ks := rfl
    rw [this, List.length_append, ih, List.length_cons]
    show 7 + _ = _
    omega
theorem entsV_get : ∀ (ks : List ByteArray) (i j : Nat) (hi : i < ks.length), j < 7 → (entsV ks)[i * 7 + j]? = (entC (ks[i]'hi))[j]?
  | [], i, j, hi, _ => by simp at hi
  | k :: ks, 0, j, _, hj => by
    have : entsV (k :: ks) = entC k ++ entsV ks := rfl
    rw [this, List.getElem?_append_left (by show 0 * 7 + j < 7; omega)]
    simp
  | k :: ks, i + 1, j, hi, hj => by
    have : entsV (k :: ks) = entC k ++ entsV ks := rfl
    rw [this, List.getElem?_append_right (by show 7 ≤ _; omega)]
    have e : (i + 1) * 7 + j - (entC k).length = i * 7 + j := by show (i + 1) * 7 + j - 7 = _; omega
    rw [e, entsV_get ks i j (by simpa using hi) hj]
    rfl
theorem entsV_snoc (ks : List ByteArray) (k : ByteArray) : entsV (ks ++ [k]) = entsV ks ++ entC k := by simp [entsV]
theorem ent_at {w : World} {B : Nat} {A : Option Addr} {ks : List ByteArray} (h : At w B 7 A ks.length (entsV ks)) {i : Nat} (hi : i < ks.length) :
    ∃ b o, A = some ⟨b, o, none⟩ ∧ b < B ∧ (w.cell? ⟨b, o + i * 7, none⟩ = some (.string (ks[i]'hi)) ∧ w.cell? ⟨b, o + i * 7 + 1, none⟩ = some (.int .i64 3) ∧ w.cell? ⟨b, o + i * 7 + 2, none⟩ = some (.bool false) ∧ w.cell? ⟨b, o + i * 7 + 3, none⟩ = some (.int .i64 1) ∧
      w.cell? ⟨b, o + i * 7 + 4, none⟩ = some (.string ⟨#[]⟩) ∧ w.cell? ⟨b, o + i * 7 + 5, none⟩ = some (.slice none 0 0) ∧ w.cell? ⟨b, o + i * 7 + 6, none⟩ = some (.slice none 0 0)) := by
  obtain ⟨b, o, e, hb, hr⟩ := h.2 (by omega)
  have g := fun j hj u (hu : (entC (ks[i]'hi))[j]? = some u) => hr (i * 7 + j) u (by rw [entsV_get ks i j hi hj]; exact hu)
  refine ⟨b, o, e, hb, ?_, ?_, ?_, ?_, ?_, ?_, ?_⟩
  · exact g 0 (by omega) _ rfl
  · exact g 1 (by omega) _ rfl
  · exact g 2 (by omega) _ rfl
  · exact g 3 (by omega) _ rfl
  · exact g 4 (by omega) _ rfl
  · exact g 5 (by omega) _ rfl
  · exact g 6 (by omega) _ rfl
theorem one_entC (k : ByteArray) : ∀ u ∈ entC k, u.oneCell' = true := by
  intro u hu
  simp only [entC, List.mem_cons, List.not_mem_nil, or_false] at hu
  rcases hu with rfl | rfl | rfl | rfl | rfl | rfl | rfl <;> rfl
/-- A call answers entries in memory of its own. -/
def MadeE (w : World) (ks : List ByteArray) (e : Ending) (w' : World) : Prop := ∃ v, e = .returned v ∧ w'.ownsRow w.heap.size 79 7 v ks.length (entsV ks) ∧ Below w.heap.size w w'
set_option maxRecDepth 100000 in
set_option maxHeartbeats 4000000 in
theorem copies_any (A : Option Addr) (c B : Nat) (ks : List ByteArray) (w : World) (h : At w B 7 A ks.length (entsV ks)) (hB : B ≤ w.heap.size) (hk : ks.length ≤ 100) :
    Calls Try.prog 47 #[.slice A ks.length c] w (MadeE w ks) := by
  obtain ⟨i0, hi, hz0, hz1, hz2⟩ := info_parts' info_ent
  have HC := Lib.hid copied_one
  unfold entV at HC
  have O0 : w.ownsRow w.heap.size 79 7 (.slice none 0 0) 0 (entsV (ks.take 0)) := World.ownsRow_nil _ _ _ _
  go_enter Try.func47, Try.ntmps47
  go_wp2
  go_loopw [3, 8] (fun v i wr => ∃ k : Nat, k ≤ ks.length ∧ i = .int .i64 k ∧ wr.ownsRow w.heap.size 79 7 v k (entsV (ks.take k)) ∧ Below w.heap.size w wr) (fun _ i _ => ks.length - (intOf i).toNat)
  case atStart => exact ⟨0, Nat.zero_le _, rfl, O0, Below.refl _ _⟩
  case round =>
    obtain ⟨k, hk2, rfl, hown, hb⟩ := hrel
    clear O0
    by_cases hlt : k < ks.length
    · obtain ⟨b, o, rfl, hbB, c0, c1, c2, c3, c4, c5, c6⟩ := ent_at (h.below hb hB) hlt
      have HN : Hid (entsV (ks.take (k + 1)) = entsV (ks.take k) ++ entC ks[k]) := by rw [Hid, List.take_succ_eq_append_getElem hlt, entsV_snoc]
      obtain ⟨y, hy⟩ : ∃ y, y = ks[k] := ⟨_, rfl⟩
      rw [← hy] at c0 HN
      have hsz := hb.size
      clear hy h
      have HH := Lib.hid hown
      have HBB := Lib.hid hb
      clear hown hb
      go_wp2_with (first
        | (go_at_call 61; (with_reducible refine (HC.out _ _).mono ?_); rintro e w1 ⟨rfl, b1⟩; have O1 := own_below (HH.out.alloc _) b1 (Nat.le_refl _); have s1 := b1.size)
        | (at_builtin; (refine wpList_append_from _ rfl (.tmp 12) (.tmp 15) 82 rfl w.heap.size 79 i0 _ 7 104 Try.underlying82 hi hz0 hz1 hz2 rfl (by decide) _ k _ rfl (O1.alloc _) (w1.heap.size + 1) (some ⟨w1.heap.size, 0, none⟩) 1 1 (entC y) rfl (At.new w1 (entC y) 79 7 1 rfl) (one_entC y) (by unfold maxLen; omega) (by omega) (by rw [zal]; rw [zal] at s1; omega) ?_); intro v3 w3 hown3 hg3 _))
      have b3 := (((HBB.out.alloc HBB.out.size (.cells #[.string y, .int .i64 3, .bool false, .int .i64 1, .string ⟨#[]⟩, .slice none 0 0, .slice none 0 0] 79)).trans (b1.mono (by rw [zal]; omega))).alloc (by rw [zal] at s1; omega) _).trans (grown_below (O1.alloc _) hg3 (by rw [zal]; rw [zal] at s1; omega))
      rw [← HN.out] at hown3
      go_wp2
      go_roundw
      case rel => exact ⟨k + 1, by omega, by go_num, hown3, b3⟩
      case measure => simp [intOf]; omega
    · have hke : k = ks.length := by omega
      subst hke
      rw [List.take_length] at hown
      go_wp2
      go_ret
      exact ⟨_, rfl, hown, hb⟩
end Go.Proofs.Ytkdlfgfjahnhmaa
