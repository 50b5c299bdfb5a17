import Derived.Test.YtponmokiogdejaaCrcRef2
namespace Go.Proofs.Ytponmokiogdejaa
open Go.RowKit Crc

theorem and1 {x : Nat} (h : x < 4294967296) : bits BinOp.and IntKind.u32 (x : Int) 1 = ((x % 2 : Nat) : Int) := by
  have := u32_and_nat x 1 h (by omega)
  rw [nat_mask1] at this
  exact this
theorem and15 {x : Nat} (h : x < 4294967296) : bits BinOp.and IntKind.u32 (x : Int) 15 = ((x % 16 : Nat) : Int) := by
  have := u32_and_nat x 15 h (by omega)
  rw [nat_mask4] at this
  exact this
theorem half_yes {x : Nat} (h : x < 4294967296) (h1 : x % 2 = 1) : bits BinOp.xor IntKind.u32 ((x : Int) / 2) 3988292384 = (half x : Nat) := by
  unfold half
  rw [if_pos h1]
  have := u32_xor_nat (x / 2) 3988292384 (by omega) (by omega)
  rw [← this]
  rfl
theorem half_no {x : Nat} (h1 : ¬ x % 2 = 1) : ((x : Int) / 2) = (half x : Nat) := by unfold half; rw [if_neg h1]; omega

set_option maxHeartbeats 400000 in
theorem fill_any (i b : Nat) (t : TypeId) (cs : Array Value) (w : World) (hi : i < 16) (hb : w.heap[b]? = some (.cells cs t (0, 0))) (hs : cs.size = 16) :
    Calls Try.prog 57 #[.int .i64 (i : Int), .pointer (some ⟨b, 0, none⟩)] w fun e w' => e = .returned (.tuple #[]) ∧ w' = w.setCell ⟨b, i, none⟩ (.int .u32 (tab i : Nat)) := by
  have hcell : w.cell? ⟨b, i, none⟩ = some (cs[i]'(by omega)) := by rw [cell_of_row w b i cs t (0, 0) hb]; exact Array.getElem?_eq_getElem (by omega)
  have hfr : w.frozen? ⟨b, i, none⟩ = false := by simp [World.frozen?, hb]
  clear hb
  go_enter Try.func57, Try.ntmps57
  go_wp2
  go_loop [3, 7] (fun r j => ∃ (k x : Nat), k ≤ 4 ∧ j = .int .i64 k ∧ x < 4294967296 ∧ r = .int .u32 (x : Int) ∧ Hid (x = halfN k i)) (fun _ j => 4 - (intOf j).toNat)
  case atStart => exact ⟨0, i, by omega, rfl, by omega, rfl, rfl⟩
  case round =>
    obtain ⟨k, x, hk, rfl, hx, rfl, HX⟩ := hrel
    by_cases hlt : k < 4
    · have HN : Hid (half x = halfN (k + 1) i) := by rw [halfN_succ, ← HX.out]; rfl
      have hl := half_lt hx
      by_cases h1 : x % 2 = 1
      · have ht : (bits BinOp.and IntKind.u32 (x : Int) 1 == 1) = true := by rw [and1 hx, h1]; rfl
        have HV := Lib.hid (half_yes hx h1)
        clear h1 HX
        go_wp2
        go_round
        case rel => exact ⟨k + 1, half x, by omega, by go_num, hl, by rw [HV.out], HN⟩
        case measure => simp [intOf]; omega
      · have ht : (bits BinOp.and IntKind.u32 (x : Int) 1 == 1) = false := by rw [and1 hx, beq_eq_false_iff_ne]; omega
        have HV := Lib.hid (half_no h1)
        clear h1 HX
        go_wp2
        go_round
        case rel => exact ⟨k + 1, half x, by omega, by go_num, hl, by rw [HV.out], HN⟩
        case measure => simp [intOf]; omega
    · have HN : Hid ((.int .u32 (x : Int) : Value) = .int .u32 (tab i : Nat)) := by
        have h1 := HX.out
        rw [show k = 4 from by omega] at h1
        rw [h1]
        rfl
      clear HX
      go_wp2
      go_end0
      exact ⟨rfl, by rw [← HN.out]⟩

/-- The table behind k rounds. -/
def tabL (k : Nat) : List Value := (List.range 16).map fun i => .int .u32 ((if i < k then tab i else 0 : Nat) : Int)
def tabs (k : Nat) : Array Value := (tabL k).toArray
theorem tabL_len (k : Nat) : (tabL k).length = 16 := by simp [tabL]
theorem tabA_len : (tabL 16).toArray.size = 16 := by rw [List.size_toArray, tabL_len]
theorem tabs_size (k : Nat) : (tabs k).size = 16 := by simp [tabs, tabL]
theorem tabL_get (k i : Nat) (hi : i < 16) : (tabL k)[i]? = some (.int .u32 ((if i < k then tab i else 0 : Nat) : Int)) := by simp [tabL, hi]
theorem tabs_set (k : Nat) : (tabs k).setIfInBounds k (.int .u32 (tab k : Nat)) = tabs (k + 1) := by
  have : (tabL k).set k (.int .u32 (tab k : Nat)) = tabL (k + 1) := by
    apply List.ext_getElem?
    intro i
    rw [List.getElem?_set]
    by_cases hi : i < 16
    · rw [tabL_get k i hi, tabL_get (k + 1) i hi, tabL_len]
      by_cases e : k = i
      · subst e; rw [if_pos rfl, if_pos hi, if_pos (by omega)]
      · rw [if_neg e]
        by_cases e2 : i < k
        · rw [if_pos e2, if_pos (by omega)]
        · rw [if_neg e2, if_neg (by omega)]
    · have h1 : ∀ k, (tabL k)[i]? = none := fun k => List.getElem?_eq_none (by rw [tabL_len]; omega)
      rw [h1, h1, tabL_len]
      split
      · rw [if_neg (by omega)]
      · rfl
  simp [tabs, this]
theorem tabL_one (k : Nat) : ∀ v ∈ tabL k, v.oneCell' = true := by
  intro v hv
  simp only [tabL, List.mem_map] at hv
  obtain ⟨_, _, rfl⟩ := hv
  rfl
theorem tab_row {w : World} {b k : Nat} {t : TypeId} (h : w.heap[b]? = some (.cells (tabs k) t (0, 0))) : w.rangeAt b 0 (tabL k) ∧ w.there b 0 16 := by
  constructor
  · intro j v hv
    rw [Nat.zero_add, cell_of_row w b j _ t (0, 0) h]
    simpa [tabs] using hv
  · intro j hj
    rw [Nat.zero_add, cell_of_row w b j _ t (0, 0) h]
    exact ⟨by simp [tabs, tabL, hj], by simp [World.frozen?, h]⟩
theorem tab_info : (Try.prog.info? 92).map (·.size) = some 16 := by kernel_rfl
theorem tab0 : tabs 0 = #[.int .u32 0, .int .u32 0, .int .u32 0, .int .u32 0, .int .u32 0, .int .u32 0, .int .u32 0, .int .u32 0, .int .u32 0, .int .u32 0, .int .u32 0, .int .u32 0, .int .u32 0, .int .u32 0, .int .u32 0, .int .u32 0] := by kernel_rfl

set_option maxHeartbeats 1000000 in
theorem table_any (w : World) : Calls Try.prog 55 #[] w fun e w' => e = .returned (.agg (tabs 16)) ∧ Below w.heap.size w w' := by
  obtain ⟨w1, hw1⟩ : ∃ w1, (w.alloc (.cells (tabs 0) 92)).alloc (.cells (tabs 0) 92) = w1 := ⟨_, rfl⟩
  have hz0 : w1.heap[w.heap.size]? = some (.cells (tabs 0) 92 (0, 0)) := by rw [← hw1]; exact heap_alloc2_old _ _ _
  have hz1 : w1.heap[w.heap.size + 1]? = some (.cells (tabs 0) 92 (0, 0)) := by rw [← hw1]; exact heap_alloc2_new _ _ _
  have hb1 : Below w.heap.size w w1 := by rw [← hw1]; exact ((Below.refl _ w).alloc (Nat.le_refl _) _).alloc (by simp) _
  rw [tab0] at hw1
  have HW := Lib.hid hw1
  clear hw1
  go_enter Try.func55, Try.ntmps55
  go_wp2
  rw [HW.out]
  go_loopw [5] (fun i wr => ∃ k : Nat, k ≤ 16 ∧ i = .int .i64 k ∧ wr.heap[w.heap.size]? = some (.cells (tabs 0) 92 (0, 0)) ∧ wr.heap[w.heap.size + 1]? = some (.cells (tabs k) 92 (0, 0)) ∧ Below w.heap.size w wr) (fun i _ => 16 - (intOf i).toNat)
  case atStart => exact ⟨0, by omega, rfl, hz0, hz1, hb1⟩
  case round =>
    obtain ⟨k, hk, rfl, h0, h1, hb⟩ := hrel
    clear hz0 hz1 hb1
    by_cases hlt : k < 16
    · have c1 := fill_any k (w.heap.size + 1) 92 (tabs k) wr hlt h1 (tabs_size k)
      have n0 : (wr.setCell ⟨w.heap.size + 1, k, none⟩ (.int .u32 (tab k : Nat))).heap[w.heap.size]? = some (.cells (tabs 0) 92 (0, 0)) := by rw [heap_setCell_other _ _ _ _ (by simp)]; exact h0
      have n1 : (wr.setCell ⟨w.heap.size + 1, k, none⟩ (.int .u32 (tab k : Nat))).heap[w.heap.size + 1]? = some (.cells (tabs (k + 1)) 92 (0, 0)) := by rw [← tabs_set]; exact heap_setCell_same _ _ _ _ _ _ h1
      have hb2 := hb.setCell (p := ⟨w.heap.size + 1, k, none⟩) (by simp) (.int .u32 (tab k : Nat))
      have N0 := Lib.hid n0
      have N1 := Lib.hid n1
      clear n0 n1 h0 h1
      go_wp2_with (go_at_call 57; refine c1.mono ?_; rintro e w' ⟨rfl, rfl⟩)
      go_roundw
      case rel => exact ⟨k + 1, by omega, by go_num, N0.out, N1.out, hb2⟩
      case measure => simp [intOf]; omega
    · obtain rfl : k = 16 := by omega
      obtain ⟨hr1, _⟩ := tab_row h1
      obtain ⟨_, ht0⟩ := tab_row h0
      clear h0 h1
      go_wp2_with (first
        | (refine wpList_load_mid rfl 92 (.tmp 1) rfl (w.heap.size + 1) 0 rfl (tabL 16) _ hr1 Try.underlying92 rfl (by rw [tabL_len]; exact tab_info) ?_)
        | (refine wpList_store_mid rfl 92 (.tmp 0) (.tmp 12) rfl w.heap.size 0 (tabL 16).toArray rfl rfl (by rw [tabA_len]; exact ht0) (by rw [tabA_len]; exact tab_info) (all_oneCell_toArray (tabL_one 16)) ?_))
      have hr2 := World.rangeAt_setCells_same wr w.heap.size 0 (tabL 16) (by rw [tabL_len]; exact ht0)
      exact bodyPost_ret (v := .agg (tabL 16).toArray) (results_mid rfl _ _ w.heap.size 0 (tabL 16) _ rfl hr2 Try.underlying92 rfl (by rw [tabL_len]; exact tab_info)) rfl ⟨rfl, hb.trans (below_setCells (Nat.le_refl _) _ _ _)⟩
end Go.Proofs.Ytponmokiogdejaa
