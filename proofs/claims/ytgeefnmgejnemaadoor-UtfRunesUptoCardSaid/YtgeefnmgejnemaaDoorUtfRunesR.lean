import Derived.Test.YtgeefnmgejnemaaDoorUtfRunes
import Derived.Test.YtgeefnmgejnemaaDoorUtfBuilder
namespace Go.Proofs.YtgeefnmgejnemaaDoor
open Go.RowKit Go.Shelf Utf
set_option linter.unusedSimpArgs false
set_option linter.unusedVariables false
namespace Utf
def runesV (R : List (Nat × Nat)) : List Value := R.map fun x => .int .i64 (x.2 : Int)
def placesV (R : List (Nat × Nat)) : List Value := R.map fun x => .int .i64 (x.1 : Int)
end Utf
theorem info_int : (Tryd.prog.info? 3).map (fun i => (i.zero, i.size, i.bytes)) = some (some (.int .i64 0), 1, 8) := by kernel_rfl
/-- Two rows of the call's own: the runes, and their places. -/
structure TwoRows (w : World) (R : List (Nat × Nat)) (v1 v2 : Value) (W : World) : Prop where
  runes : W.ownsRow w.heap.size 3 1 v1 R.length (runesV R)
  places : W.ownsRow w.heap.size 3 1 v2 R.length (placesV R)
  apart : v2.ownBlock = none ∨ v2.ownBlock ≠ v1.ownBlock
  bel : Below w.heap.size w W
theorem TwoRows.nil (w : World) : TwoRows w [] (.slice none 0 0) (.slice none 0 0) w :=
  ⟨World.ownsRow_nil _ _ _ _, World.ownsRow_nil _ _ _ _, .inl rfl, Below.refl _ _⟩
def RunesMade (w : World) (R : List (Nat × Nat)) (e : Ending) (w' : World) : Prop := ∃ v1 v2, e = .returned (.tuple #[v1, v2]) ∧ TwoRows w R v1 v2 w'
theorem asz (w : World) (o : Obj) : (w.alloc o).heap.size = w.heap.size + 1 := by simp
theorem apart_step {o1 o2 o3 o4 : Option Nat} {n n' m : Nat} (a : o2 = none ∨ o2 ≠ o1) (h2 : ∀ k, o2 = some k → k < n) (hn : n ≤ n') (b3 : o3 = o1 ∨ o3 = some n') (b4 : o4 = o2 ∨ o4 = some m) (h3 : ∀ k, o3 = some k → k < m) :
    o4 = none ∨ o4 ≠ o3 := by
  rcases b4 with rfl | rfl
  · rcases b3 with rfl | rfl
    · exact a
    · refine .inr fun e => ?_
      have := h2 _ e
      omega
  · refine .inr fun e => ?_
    have := h3 _ e.symm
    omega
theorem apart_turn {o1 o2 o3 : Option Nat} {n n' : Nat} (a : o2 = none ∨ o2 ≠ o1) (h2 : ∀ k, o2 = some k → k < n) (hn : n ≤ n') (b3 : o3 = o1 ∨ o3 = some n') : o3 = none ∨ o3 ≠ o2 := by
  rcases b3 with rfl | rfl
  · rcases a with rfl | a
    · cases o3 with
      | none => exact .inl rfl
      | some k => exact .inr (by simp)
    · exact .inr fun e => a e.symm
  · refine .inr fun e => ?_
    have := h2 _ e.symm
    omega
set_option maxRecDepth 100000 in
set_option maxHeartbeats 4000000 in
theorem refRunes_any (l : List UInt8) (w : World) (hs : l.length ≤ 1099511627776) :
    Calls Tryd.prog 12 #[.string (bs l)] w (RunesMade w (runesL l)) := by
  obtain ⟨i0, hi, hz0, hz1, hz2⟩ := info_parts info_int
  have hz := bs_size l
  have HA : Hid (∀ (k : Nat) V, k ≤ l.length → Calls Tryd.prog 22 #[.string (bs l), .int .i64 (k : Int)] V fun e w' => e = .returned (tupN (at1 (l.drop k))) ∧ V = w') :=
    fun k V hk => (refAt_any (bs l) k V (by omega) (by omega)).mono fun _ _ h => ⟨h.1, h.2.symm⟩
  obtain ⟨s, hse, hsz⟩ : ∃ s : ByteArray, s = bs l ∧ s.size = l.length := ⟨_, rfl, hz⟩
  rw [← hse] at HA ⊢
  have hs2 : s.size ≤ 1099511627776 := by omega
  have HZ := Lib.hid hsz
  have HT0 := Lib.hid (TwoRows.nil w)
  clear hse hz hsz hs
  go_enter Tryd.func12, Tryd.ntmps12
  go_wp2
  go_loopw [4, 5, 6] (fun v1 v2 i wr => ∃ (k : Nat) (R : List (Nat × Nat)), k ≤ s.size ∧ i = .int .i64 k ∧ Hid (R.length ≤ k) ∧ Hid (R ++ runesAt l k = runesL l) ∧ Hid (TwoRows w R v1 v2 wr))
    (fun _ _ i _ => s.size - (intOf i).toNat)
  case atStart => exact ⟨0, [], by omega, rfl, Nat.le_refl _, rfl, HT0⟩
  case round =>
    obtain ⟨k, R, hk, rfl, HR, HE, HW⟩ := hrel
    clear HT0
    by_cases hlt : k < s.size
    · have c1 := HA.out k wr (by have := HZ.out; omega)
      obtain ⟨p, hp⟩ : ∃ p, at1 (l.drop k) = p := ⟨_, rfl⟩
      rw [hp] at c1
      obtain ⟨r, n⟩ := p
      unfold tupN at c1
      have HC := Lib.hid c1
      by_cases hn : n = 0
      · have he : R = runesL l := by rw [← HE.out, runesAt_none (by rw [hp]; exact hn), List.append_nil]
        have hn' : ((n : Int) == 0) = true := by rw [hn]; rfl
        subst he
        clear c1 hp HE
        go_wp2_with fail
        ((with_reducible refine HC.out.mono ?_); rintro e w1 ⟨rfl, rfl⟩)
        go_wp2
        go_ret2
        exact ⟨_, _, rfl, HW.out⟩
      · have hn' : ((n : Int) == 0) = false := by rw [beq_eq_false_iff_ne]; omega
        have hle := at1_le (l := l) (k := k) (by rw [hp]; exact hn)
        rw [hp] at hle
        simp only at hle
        have hN : (R ++ [(k, r)]) ++ runesAt l (k + n) = runesL l := by
          rw [← HE.out, runesAt_some (k := k) (by rw [hp]; exact hn), hp, List.append_assoc]; rfl
        have HN := Lib.hid hN
        have hRk : R.length ≤ k := HR.out
        have hkn : k + n ≤ s.size := by have := HZ.out; omega
        have hR2 : (R ++ [(k, r)]).length ≤ k + n := by rw [List.length_append, List.length_singleton]; omega
        have HR2 := Lib.hid hR2
        obtain ⟨O1, O2, OA, OB⟩ := HW.out
        have hsz2 := OB.size
        clear c1 hp HE hN hR2 HR hle
        go_wp2_with (first
          | (go_at_call 22; (with_reducible refine HC.out.mono ?_); rintro e w1 ⟨rfl, rfl⟩)
          | (at_builtin; (refine wpList_append_from _ rfl (.tmp 21) (.tmp 23) 24 rfl w.heap.size 3 i0 (.int .i64 0) 1 8 Tryd.underlying24 hi hz0 hz1 hz2 rfl (by decide) _ R.length _ rfl (O1.alloc _) (wr.heap.size + 1) (some ⟨wr.heap.size, 0, none⟩) 1 1 [.int .i64 (r : Int)] rfl (At.new wr [.int .i64 (r : Int)] 3 1 1 rfl) (by simp [Value.oneCell']) (by unfold maxLen; omega) (by omega) (by simp; omega) ?_); intro v3 w3 hown3 hg3 hb3)
          | (at_builtin; (refine wpList_append_from _ rfl (.tmp 25) (.tmp 27) 24 rfl w.heap.size 3 i0 (.int .i64 0) 1 8 Tryd.underlying24 hi hz0 hz1 hz2 rfl (by decide) _ R.length _ rfl (World.ownsRow.alloc (World.ownsRow.kept (O2.alloc _) hg3 OA) _) (w3.heap.size + 1) (some ⟨w3.heap.size, 0, none⟩) 1 1 [.int .i64 (k : Int)] rfl (At.new w3 [.int .i64 (k : Int)] 3 1 1 rfl) (by simp [Value.oneCell']) (by unfold maxLen; omega) (by omega) (by have := hg3.size; simp at this ⊢; omega) ?_); intro v4 w4 hown4 hg4 hb4))
        have s3 := hg3.size
        rw [asz] at s3 hb3 hb4
        have hN2 : TwoRows w (R ++ [(k, r)]) v3 v4 w4 := by
          refine ⟨?_, ?_, apart_step OA (fun k h => (O2.lt k h).2) (Nat.le_succ _) hb3 hb4 (fun k h => Nat.lt_succ_of_lt (hown3.lt k h).2), ?_⟩
          · have := (hown3.alloc (.cells #[.int .i64 (k : Int)] 3)).kept hg4 (apart_turn OA (fun k h => (O2.lt k h).2) (Nat.le_succ _) hb3)
            simpa [runesV] using this
          · simpa [placesV] using hown4
          · have b3 := (OB.alloc OB.size (.cells #[.int .i64 (r : Int)] 3)).trans (grown_below (O1.alloc _) hg3 (by simp; omega))
            exact (b3.alloc b3.size _).trans (grown_below (World.ownsRow.alloc (World.ownsRow.kept (O2.alloc _) hg3 OA) _) hg4 (by simp; omega))
        have HN2 := Lib.hid hN2
        clear hN2 hown3 hown4 hg3 hg4 hb3 hb4 O1 O2 OA OB s3 hsz2
        go_wp2
        go_roundw
        case rel => exact ⟨k + n, _, hkn, by go_num, HR2, HN, HN2⟩
        case measure => simp [intOf]; omega
    · have he : R = runesL l := by rw [← HE.out, runesAt_none (by rw [List.drop_eq_nil_of_le (by have := HZ.out; omega)]; rfl), List.append_nil]
      subst he
      clear HE
      go_wp2
      go_ret2
      exact ⟨_, _, rfl, HW.out⟩
end Go.Proofs.YtgeefnmgejnemaaDoor
