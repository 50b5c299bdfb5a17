import Derived.Test.YtponmokiogdejaaIter
import Derived.Test.YtponmokiogdejaaCrcTab
import Derived.Deep.WholeRow
import Derived.BigRegionIn
namespace Go.Proofs.Ytponmokiogdejaa
open Go.RowKit Go.Shelf Crc

attribute [local go_sem] Oper.semAt_some

theorem tab_lt {i : Nat} (h : i < 16) : tab i < 4294967296 := halfN_lt 4 (by omega)
theorem xor_c {x : Nat} (hx : x < 4294967296) (c : UInt8) : bits BinOp.xor IntKind.u32 (x : Int) (c.toNat : Int) = ((x ^^^ c.toNat : Nat) : Int) := u32_xor_nat x c.toNat hx (by have := u8_lt c; omega)
theorem nib_c {x : Nat} (hx : x < 4294967296) : bits BinOp.xor IntKind.u32 ((x : Int) / 16) ((tab (x % 16) : Nat) : Int) = ((halfN 4 x : Nat) : Int) := by
  have := u32_xor_nat (x / 16) (tab (x % 16)) (by omega) (tab_lt (by omega))
  rw [nibble, ← this]
  rfl

theorem not_u32 {x : Nat} (h : x < 4294967296) : bits BinOp.xor IntKind.u32 IntKind.u32.max (x : Int) = ((4294967295 - x : Nat) : Int) := by
  have := u32_xor_nat 4294967295 x (by omega) h
  rw [Nat.xor_comm, ← not_xor h] at this
  exact this

theorem stored3 {B n : Nat} {w W : World} {R : Addr} {T : Nat} {u : Value} {f : Nat → Value} {g : List UInt8 → Nat} {pre : List UInt8} {a : Act}
    (hR : B ≤ R.block) (hc : W.cell? R = some u) (hf : W.frozen? R = false) (hB : Below B w W) (hT : ∀ i, i < n → W.cell? ⟨T, i, none⟩ = some (f i)) (hne : T ≠ R.block) (v1 v2 : Value) :
    ownPostK (Below B) (fun pre W => (W.cell? R = some (.int .u32 (g pre : Nat)) ∧ W.frozen? R = false ∧ ∀ i, i < n → W.cell? ⟨T, i, none⟩ = some (f i)) ∧ Below B w W) (fun _ _ _ => False) pre W .normal a
      (((W.setCell R v1).setCell R v2).setCell R (.int .u32 (g pre : Nat))).drew.drew := by
  have k : KeepsOthers W (((W.setCell R v1).setCell R v2).setCell R (.int .u32 (g pre : Nat))).drew.drew :=
    (((KeepsOthers.setCell _ _ _).trans (KeepsOthers.setCell _ _ _)).trans (KeepsOthers.setCell _ _ _)).trans ((KeepsOthers.drew _).trans (KeepsOthers.drew _))
  have b : Below B W (((W.setCell R v1).setCell R v2).setCell R (.int .u32 (g pre : Nat))).drew.drew := ((((Below.refl B W).setCell hR v1).setCell hR v2).setCell hR _).drew.drew
  refine ⟨k, b, ⟨?_, ?_, fun i hi => ?_⟩, hB.trans b⟩
  · rw [World.cell?_drew, World.cell?_drew]
    exact World.cell?_setCell_same' _ _ _ (by rw [World.cell?_setCell_same' _ _ _ (by rw [World.cell?_setCell_same' _ _ _ (by rw [hc]; rfl)]; rfl)]; rfl)
  · rw [World.frozen?_drew, World.frozen?_drew, World.frozen?_setCell, World.frozen?_setCell, World.frozen?_setCell]
    exact hf
  · have hn : R ≠ (⟨T, i, none⟩ : Addr) := fun e => hne (by rw [e])
    rw [World.cell?_drew, World.cell?_drew, World.cell?_setCell_other _ _ _ _ hn, World.cell?_setCell_other _ _ _ _ hn, World.cell?_setCell_other _ _ _ _ hn]
    exact hT i hi

set_option maxRecDepth 100000 in
set_option maxHeartbeats 2000000 in
theorem more_in (s : Nat) (A : Option Addr) (cap : Nat) (l : List UInt8) (w : World) (hs : s < 4294967296) (h1 : At w w.heap.size 1 A l.length (l.map u8v)) (hm : l.length ≤ 9223372036854775807) :
    CallsIn Fence.wide 5 Try.prog 54 #[.int .u32 (s : Int), .slice A l.length cap] w fun e w' => e = .returned (.int .u32 (more s l : Nat)) ∧ Below w.heap.size w w' := by
  refine callsIn_of_wp_marks Try.func54 rfl trivial ?_ rfl
  simp only [Try.ntmps54, List.size_toArray, List.length_cons, List.length_nil, Nat.reduceAdd, Nat.reduceSub, Array.replicate_succ, Array.replicate_zero, List.push_toArray, List.append_toArray, List.nil_append, List.cons_append]
  have hst : ∀ W : World, Sem.run Try.prog (storeCells ⟨W.heap.size, 0, none⟩ (tabs 16).toList) (W.alloc (.cells #[.int .u32 0, .int .u32 0, .int .u32 0, .int .u32 0, .int .u32 0, .int .u32 0, .int .u32 0, .int .u32 0, .int .u32 0, .int .u32 0, .int .u32 0, .int .u32 0, .int .u32 0, .int .u32 0, .int .u32 0, .int .u32 0] 92)) = .ok () (W.alloc (.cells (tabs 16) 92)) :=
    fun W => run_storeCells_new W 92 _ (tabs 16) (by rw [tabs_size]; exact tab_info) (by rw [tabs_size]; rfl) (all_oneCell_toArray (tabL_one 16))
  have hts := tabs_size 16
  have hnot : bits BinOp.xor IntKind.u32 IntKind.u32.max (s : Int) = ((4294967295 - s : Nat) : Int) := not_u32 hs
  gi_wp2_with (first
    | (refine ⟨trivial, ?_⟩; gi_at_call 55; refine (callsIn_wide.2 (table_any _)).mono ?_; rintro e w1 ⟨rfl, hb1⟩)
    | (refine ⟨trivial, ?_⟩; gi_at_call 56; refine (callsIn_wide.2 (values_any _ _ _ _)).mono ?_; rintro e w2 ⟨rfl, rfl⟩))
  clear hst hts hnot
  obtain ⟨W0, hW0⟩ : ∃ W0, ((w1.alloc (.cells (tabs 16) 92)).alloc (.cells #[.int .u32 ((4294967295 - s : Nat) : Int)] 88)).alloc (.cells #[.slice A l.length cap] 34) = W0 := ⟨_, rfl⟩
  have hsz := hb1.size
  have hB0 : Below w.heap.size w W0 := by rw [← hW0]; exact ((hb1.alloc hsz _).alloc (by simp; omega) _).alloc (by simp; omega) _
  have hz0 : W0.heap.size = w1.heap.size + 3 := by rw [← hW0]; simp
  have hR : W0.cell? ⟨w1.heap.size + 1, 0, none⟩ = some (.int .u32 ((4294967295 - s : Nat) : Int)) ∧ W0.frozen? ⟨w1.heap.size + 1, 0, none⟩ = false := by
    have h := cell_new_l (w1.alloc (.cells (tabs 16) 92)) (.int .u32 ((4294967295 - s : Nat) : Int)) 88
    rw [World.size_alloc] at h
    rw [← hW0]
    exact ⟨cell_alloc_l _ h.1, frozen_alloc_l _ h.1 h.2⟩
  have hT : ∀ i, i < 16 → W0.cell? ⟨w1.heap.size, i, none⟩ = some (.int .u32 (tab i : Nat)) := by
    intro i hi
    rw [← hW0]
    apply cell_alloc_l
    apply cell_alloc_l
    rw [cell_of_row _ w1.heap.size i (tabs 16) 92 (0, 0) (heap_alloc_new w1 _)]
    have := tabL_get 16 i hi
    rw [if_pos hi] at this
    simpa [tabs] using this
  have hS : W0.cell? ⟨w1.heap.size + 2, 0, none⟩ = some (.slice A l.length cap) := by
    have h := cell_new_l ((w1.alloc (.cells (tabs 16) 92)).alloc (.cells #[.int .u32 ((4294967295 - s : Nat) : Int)] 88)) (.slice A l.length cap) 34
    simp only [World.size_alloc] at h
    rw [← hW0]
    exact h.1
  rw [hW0]
  clear hW0
  refine wpIn_rangeFunc_ownF (F := Fence.wide) rfl (by omega) (gf := 58) (lb := #[.pointer (some ⟨w1.heap.size + 1 + 1, 0, none⟩)]) rfl trivial (enters_of Try.func58 (by kernel_rfl) rfl)
    (values_stops Fence.wide 4 trivial rfl (by omega) (w1.heap.size + 2) w.heap.size cap A l hm W0 (by omega) hB0.size hS (h1.below hB0 (Nat.le_refl _))) belowK_t (belowK_b hB0.size) (Below.refl _ _) (fun _ => rfl)
    (fun pre W => (W.cell? ⟨w1.heap.size + 1, 0, none⟩ = some (.int .u32 (reg (4294967295 - s) pre : Nat)) ∧ W.frozen? ⟨w1.heap.size + 1, 0, none⟩ = false ∧ ∀ i, i < 16 → W.cell? ⟨w1.heap.size, i, none⟩ = some (.int .u32 (tab i : Nat))) ∧ Below w.heap.size w W)
    (fun _ _ _ => False)
    (OwnFrom.and (Own.from (fun st A B row hs hg hr => ⟨cell_kept hs.1 hg hr, (frozen_kept hs.1 hg hr).trans hs.2.1, fun i hi => cell_kept (hs.2.2 i hi) hg hr⟩) _) (ownFrom_below (Nat.le_refl _) (by omega)))
    (fun _ _ _ _ _ hs _ _ => hs)
    ⟨⟨hR.1, hR.2, hT⟩, hB0⟩
    (fun x => { tmps := #[Value.int IntKind.u32 ↑s, Value.slice A l.length cap, undef, undef, Value.int IntKind.u32 0,
          Value.pointer (some ⟨w1.heap.size, 0, none⟩),
          Value.pointer (some ⟨w1.heap.size + 1, 0, none⟩), u8v x, Value.agg (tabs 16),
          Value.int IntKind.u32 ↑s, Value.int IntKind.u32 ((4294967295 - s : Nat) : Int),
          Value.slice A l.length cap,
          Value.func (Fn.func 58) #[] #[Value.pointer (some ⟨w1.heap.size + 1 + 1, 0, none⟩)], u8v x, undef,
          undef, undef, undef, undef, undef, undef, undef, undef, undef, undef, undef, undef, undef, undef, undef,
          undef, undef, undef, undef], defers := [] }) ?assign ?body ?done ?stop
  case assign =>
    intro l x W K hK
    gi_wp2
    exact hK
  case body =>
    rintro l2 pre x W ⟨⟨hc, hf, hTT⟩, hB⟩ _
    have hx0 : reg (4294967295 - s) pre < 4294967296 := reg_lt _ (by omega)
    have hsnoc := reg_snoc (4294967295 - s) pre x
    obtain ⟨x0, hq0⟩ : ∃ x0, x0 = reg (4294967295 - s) pre := ⟨_, rfl⟩
    rw [← hq0] at hc hx0 hsnoc
    have H0 := Lib.hid hq0
    clear hq0
    have hx1 : x0 ^^^ x.toNat < 4294967296 := Nat.xor_lt_two_pow (n := 32) hx0 (by have := u8_lt x; omega)
    have R1 := xor_c hx0 x
    obtain ⟨x1, hq1⟩ : ∃ x1, x1 = x0 ^^^ x.toNat := ⟨_, rfl⟩
    rw [← hq1] at R1 hx1
    have hx2 := halfN_lt 4 hx1
    have R2 := nib_c hx1
    have A1 := and15 hx1
    have T1 := hTT (x1 % 16) (by omega)
    obtain ⟨x2, hq2⟩ : ∃ x2, x2 = halfN 4 x1 := ⟨_, rfl⟩
    rw [← hq2] at R2 hx2
    have R3 := nib_c hx2
    have A2 := and15 hx2
    have T2 := hTT (x2 % 16) (by omega)
    obtain ⟨x3, hq3⟩ : ∃ x3, x3 = halfN 4 x2 := ⟨_, rfl⟩
    rw [← hq3] at R3
    have HN : Hid (x3 = reg (4294967295 - s) (pre ++ [x])) := by rw [hsnoc, two_nibbles, ← hq1, ← hq2, ← hq3]; rfl
    clear hq1 hq2 hq3 hsnoc hR hT hS hB0
    unfold u8v
    have hcb := u8_lt x
    have HT := Lib.hid hTT
    clear hTT
    have hmix : Try.prog.follows .mixedOrders = true := by kernel_rfl
    gi_wp2
    apply one_end
    · gi_region_with_o (fail)
      all_goals exact ⟨rfl, rfl, rfl⟩
    · gi_wp2
      apply one_end
      · gi_region_with_o (fail)
        all_goals exact ⟨rfl, rfl, rfl⟩
      · gi_wp2
        have hR1 : w.heap.size ≤ (⟨w1.heap.size + 1, 0, none⟩ : Addr).block := by show w.heap.size ≤ w1.heap.size + 1; omega
        rw [HN.out]
        exact stored3 hR1 hc hf hB HT.out (by show w1.heap.size ≠ w1.heap.size + 1; omega) _ _
  case done =>
    rintro D ys W hD rfl ⟨⟨hc, hf, _⟩, hB⟩ hK
    have hx : reg (4294967295 - s) ys < 4294967296 := reg_lt _ (by omega)
    have HM : Hid (4294967295 - reg (4294967295 - s) ys = more s ys) := rfl
    obtain ⟨x, hq⟩ : ∃ x, x = reg (4294967295 - s) ys := ⟨_, rfl⟩
    rw [← hq] at hc hx HM
    clear hq
    have hnot : bits BinOp.xor IntKind.u32 IntKind.u32.max (x : Int) = ((4294967295 - x : Nat) : Int) := not_u32 hx
    rw [HM.out] at hnot
    gi_wp2
    refine ⟨by simp, .inl ⟨_, _, rfl, run_takeDeferred hK, ?_⟩⟩
    exact ⟨_, results_tmp rfl _ _ _, rfl, hB.trans (belowK_b (w := w) (Nat.le_refl _) W D _ _ (by omega) hK rfl rfl)⟩
  case stop =>
    rintro D c pre W _ _ h _
    exact h.elim

theorem more_any (s : Nat) (A : Option Addr) (cap B : Nat) (l : List UInt8) (w : World) (hs : s < 4294967296) (h1 : At w B 1 A l.length (l.map u8v)) (hB : B ≤ w.heap.size) (hm : l.length ≤ 9223372036854775807) :
    Calls Try.prog 54 #[.int .u32 (s : Int), .slice A l.length cap] w fun e w' => e = .returned (.int .u32 (more s l : Nat)) ∧ Below w.heap.size w w' :=
  callsIn_wide.1 (more_in s A cap l w hs (h1.more hB) hm)

set_option maxHeartbeats 400000 in
theorem sum_any (A : Option Addr) (cap B : Nat) (l : List UInt8) (w : World) (h1 : At w B 1 A l.length (l.map u8v)) (hB : B ≤ w.heap.size) (hm : l.length ≤ 9223372036854775807) :
    Calls Try.prog 52 #[.slice A l.length cap] w fun e w' => e = .returned (.int .u32 (sum l : Nat)) ∧ Below w.heap.size w w' := by
  have c1 := more_any 0 A cap B l w (by omega) h1 hB hm
  go_enter Try.func52, Try.ntmps52
  go_wp2_with (go_at_call 54; refine c1.mono ?_; rintro e w1 ⟨rfl, hb⟩)
  go_ret
  exact ⟨rfl, hb⟩
end Go.Proofs.Ytponmokiogdejaa
