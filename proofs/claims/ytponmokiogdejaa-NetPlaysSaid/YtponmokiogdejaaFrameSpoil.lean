import Derived.Test.YtponmokiogdejaaFrameMore
namespace Go.Proofs.Ytponmokiogdejaa
open Go.RowKit Crc

theorem u8_zero {m : UInt8} (h : m = 0) : (((m.toNat : Nat) : Int) == 0) = true := by rw [h]; rfl
theorem u8_nonzero {m : UInt8} (h : m ≠ 0) : (((m.toNat : Nat) : Int) == 0) = false := by
  rw [beq_eq_false_iff_ne]
  intro e
  exact h (UInt8.toNat_inj.1 (by rw [UInt8.toNat_zero]; omega))

set_option maxHeartbeats 1000000 in
theorem spoil_bad (A : Option Addr) (c : Nat) (l : List UInt8) (n : Int) (m : UInt8) (w : World) (hn : n < 0 ∨ (l.length : Int) ≤ n) (hn1 : -9223372036854775808 ≤ n) (hn2 : n ≤ 9223372036854775807) :
    Calls Try.prog 43 #[.slice A l.length c, .int .i64 n, u8v m] w (AnsO w (spoilL l n m)) := by
  have HE : Hid (∀ W', Below w.heap.size w W' → AnsO w (spoilL l n m) (.returned (.tuple #[.slice none 0 0, .int .i64 17])) W') := fun W' hb => by
    have e : spoilL l n m = ([], 17) := by unfold spoilL; rw [if_pos hn]
    rw [e]
    exact ansO_none w W' 17 hb
  obtain ⟨P, hP⟩ : ∃ P, P = spoilL l n m := ⟨_, rfl⟩
  rw [← hP] at HE ⊢
  clear hP
  unfold u8v
  rcases Int.lt_or_le n 0 with h0 | h0
  · clear hn
    go_enter Try.func43, Try.ntmps43
    go_wp2
    go_rounds 1
    go_ret2
    refine HE.out _ ?_
    go_grown
  · have hn' : (l.length : Int) ≤ n := by omega
    clear hn
    go_enter Try.func43, Try.ntmps43
    go_wp2
    go_rounds 1
    go_ret2
    refine HE.out _ ?_
    go_grown

set_option maxHeartbeats 1000000 in
theorem spoil_zero (A : Option Addr) (c : Nat) (l : List UInt8) (k : Nat) (w : World) (hn : k < l.length) :
    Calls Try.prog 43 #[.slice A l.length c, .int .i64 (k : Int), u8v 0] w (AnsO w (spoilL l k 0)) := by
  have HE : Hid (∀ W', Below w.heap.size w W' → AnsO w (spoilL l k 0) (.returned (.tuple #[.slice none 0 0, .int .i64 2])) W') := fun W' hb => by
    have e : spoilL l k 0 = ([], 2) := by unfold spoilL; rw [if_neg (by omega), if_pos rfl]
    rw [e]
    exact ansO_none w W' 2 hb
  obtain ⟨P, hP⟩ : ∃ P, P = spoilL l k 0 := ⟨_, rfl⟩
  rw [← hP] at HE ⊢
  clear hP
  have e0 : u8v 0 = .int .u8 0 := rfl
  rw [e0]
  clear e0
  have h1 : ¬ ((l.length : Int) ≤ (k : Int)) := by omega
  go_enter Try.func43, Try.ntmps43
  go_wp2
  go_rounds 2
  go_ret2
  refine HE.out _ ?_
  go_grown

set_option maxHeartbeats 1000000 in
theorem spoil_good (A : Option Addr) (c B : Nat) (l : List UInt8) (k : Nat) (m : UInt8) (w : World) (h1 : At w B 1 A l.length (l.map u8v)) (hB : B ≤ w.heap.size) (hm : l.length ≤ 140737488355328) (hn : k < l.length) (hm0 : m ≠ 0) :
    Calls Try.prog 43 #[.slice A l.length c, .int .i64 (k : Int), u8v m] w (AnsO w (spoilL l k m)) := by
  have hk : ¬ ((l.length : Int) ≤ (k : Int)) := by omega
  have hz := u8_nonzero hm0
  have hsp : spoilL l k m = (l.set k (l.getD k 0 ^^^ m), 0) := by unfold spoilL; rw [if_neg (by omega), if_neg hm0]; rfl
  have HC : Hid (∀ W, Below w.heap.size w W → Calls Try.prog 46 #[.slice A l.length c] W (MadeB W l)) := fun W hW => clone_any A c B l W (h1.below hW hB) (Nat.le_trans hB hW.size) hm
  obtain ⟨P, hP⟩ : ∃ P, P = spoilL l k m := ⟨_, rfl⟩
  rw [← hP] at hsp ⊢
  have HP := Lib.hid hsp
  clear hP hsp hm0
  unfold u8v
  go_enter Try.func43, Try.ntmps43
  go_wp2
  refine wp_loop_rounds 3 ?_
  rw [rounds_succ]
  go_wp2
  rw [rounds_succ]
  go_wp2
  rw [rounds_succ]
  go_wp2_with fail
  refine (HC.out _ (by go_grown)).mono ?_
  rintro e w1 ⟨v, rfl, hown, hb⟩
  have hs : (l.map u8v).set k (.int .u8 (((l.getD k 0 ^^^ m).toNat : Nat) : Int)) = (l.set k (l.getD k 0 ^^^ m)).map u8v := by rw [List.map_set]; rfl
  have hx := xor_u8 (l.getD k 0) m
  obtain ⟨g, c1, rfl, hg, hgl⟩ := hown.form (by omega)
  have hcell := hown.cellAt k (by omega)
  rw [u8v_map_get l k hn, show l[k] = l.getD k 0 by simp [List.getD, hn]] at hcell
  obtain ⟨x, hxx⟩ : ∃ x, x = l.getD k 0 := ⟨_, rfl⟩
  obtain ⟨y, hy⟩ : ∃ y, y = l.set k (l.getD k 0 ^^^ m) := ⟨_, rfl⟩
  have hyl : y.length = l.length := by rw [hy, List.length_set]
  rw [← hy] at hs
  rw [← hxx] at hx hcell hs
  have HP2 := HP.out
  rw [← hy] at HP2
  have HQ := Lib.hid HP2
  clear HP2 HP hy hxx
  have hfr := hown.frozenAt k
  have hst := (hown.stored k (.int .u8 ((x ^^^ m).toNat : Int))).1
  rw [hs] at hst
  have HS := Lib.hid hst
  have HO := Lib.hid hyl
  obtain ⟨hcl, hfl⟩ := bcell hb
  obtain ⟨A9, c9, e9, hc1, _, _⟩ := own_slice hown
  injection e9 with e1 e2 e3
  subst e1 e3
  have hg0 : w.heap.size + 8 ≤ g := by simpa using hg
  have hbw : Below w.heap.size w w1 := by
    refine Below.trans ?_ (hb.mono ?_)
    · go_grown
    · simp
      omega
  have hki : (k : Int) < (l.length : Int) := by omega
  clear hs hst hyl hown HC
  go_wp2
  go_region
  all_goals
    go_wp2
    go_ret2
    rw [HQ.out]
    refine ⟨some ⟨g, 0, none⟩, c1, by simp only [HO.out]; rfl, ?_, ?_, ?_⟩
    · have h9 := HS.out
      rw [← HO.out] at h9
      exact Own.below (own_of_row (own_base h9 (by simp; omega))) (Below.drewN' (Below.refl _ _) 1)
    · simp only [HO.out]
      exact hc1
    · exact (hbw.setCell (p := ⟨g, k, none⟩) (by show w.heap.size ≤ g; omega) _).drew

theorem spoil_own (A : Option Addr) (c B : Nat) (l : List UInt8) (n : Int) (m : UInt8) (w : World) (h1 : At w B 1 A l.length (l.map u8v)) (hB : B ≤ w.heap.size) (hm : l.length ≤ 140737488355328) (hn1 : -9223372036854775808 ≤ n) (hn2 : n ≤ 9223372036854775807) :
    Calls Try.prog 43 #[.slice A l.length c, .int .i64 n, u8v m] w (AnsO w (spoilL l n m)) := by
  by_cases hn : n < 0 ∨ (l.length : Int) ≤ n
  · exact spoil_bad A c l n m w hn hn1 hn2
  · obtain ⟨k, rfl⟩ := Int.eq_ofNat_of_zero_le (show 0 ≤ n by omega)
    by_cases hm0 : m = 0
    · subst hm0
      exact spoil_zero A c l k w (by omega)
    · exact spoil_good A c B l k m w h1 hB hm (by omega) hm0
end Go.Proofs.Ytponmokiogdejaa
