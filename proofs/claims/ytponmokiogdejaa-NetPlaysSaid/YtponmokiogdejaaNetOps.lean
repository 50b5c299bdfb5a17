import Derived.Test.YtponmokiogdejaaNetMem
import Derived.Deep.RegionLaw
namespace Go.Proofs.Ytponmokiogdejaa
open Go.RowKit
set_option linter.unusedSimpArgs false
set_option linter.unusedVariables false

/-- What a call does to a net, and the error. -/
def NetDid (w : World) (M : Nat → Prop) (g0 : Nat) (L : List Let) (n : Nat) (e : Ending) (w' : World) : Prop := e = .returned (.int .i64 (n : Int)) ∧ NetO w' (Plus M w w') g0 L ∧ Only M w w'
theorem one3 (a : Nat) (A : Option Addr) (n c : Nat) (b : Bool) : ∀ u ∈ [Value.int .u64 (a : Int), .slice A n c, .bool b], u.oneCell' = true := by
  intro u hu
  simp only [List.mem_cons, List.not_mem_nil, or_false] at hu
  rcases hu with rfl | rfl | rfl <;> rfl

theorem cell_alloc_d {W : World} (o : Obj) {a : Addr} {v : Value} (h : W.cell? a = some v) : (W.alloc o).cell? a = some v :=
  (World.cell?_of_block (Below.heap_alloc W o a.block (World.block_lt_of_cell? W a h))).trans h
theorem net_cell {w w4 w5 : World} {M : Nat → Prop} {g0 : Nat} {L : List Let} {A : Option Addr} {c : Nat} {xs : List Value} {o : Obj} (h : NetAt w M g0 L A c xs) (b4 : Below w.heap.size w w4) (hg : (w4.alloc o).grownBy w5 (Value.slice A L.length c).ownBlock) :
    w5.cell? ⟨g0, 0, none⟩ = some (.slice A L.length c) ∧ w5.frozen? ⟨g0, 0, none⟩ = false := by
  obtain ⟨h1, h2, h3, h4, h5, h6, h7, h8⟩ := h
  have s4 := b4.size
  have kg : w5.heap[g0]? = w.heap[g0]? := (hg.block g0 (by rw [World.size_alloc]; omega) (fun e => (h7 g0 e.symm).2 rfl)).trans ((heap_alloc_old _ _ (by omega)).trans (b4.block g0 h6))
  exact ⟨(World.cell?_of_block (a := ⟨g0, 0, none⟩) kg).trans h1, (World.frozen?_of_block (a := ⟨g0, 0, none⟩) kg).trans h2⟩

set_option maxRecDepth 100000 in
set_option maxHeartbeats 4000000 in
theorem send_any (M : Nat → Prop) (g0 : Nat) (L : List Let) (to : Nat) (l : List UInt8) (B : Option Addr) (d : Nat) (w : World) (h : NetO w M g0 L) (hL : L.length ≤ 1000000) (h1 : At w w.heap.size 1 B l.length (l.map u8v)) (hm : l.length ≤ 140737488355328) (hto : to < 18446744073709551616) :
    Calls Try.prog 14 #[.pointer (some ⟨g0, 0, none⟩), .int .u64 (to : Int), .slice B l.length d] w (NetDid w M g0 (L ++ [⟨to, l, false⟩]) 0) := by
  obtain ⟨i0, hi, hz0, hz1, hz2⟩ := info_parts info_letter
  obtain ⟨A, c, xs, hn⟩ := h
  have HN := Lib.hid hn
  obtain ⟨q0, qf, hown, -, -, hg0, hob, hM⟩ := hn
  have HC := Lib.hid fun W (hW : Below w.heap.size w W) => copied_any B d ⟨to, l, false⟩ W (h1.arg hW) hm
  clear hob hM h1
  go_enter Try.func14, Try.ntmps14
  go_wp2_with fail
  go_region_law (first
    | (go_simp; go_at_call 33; (with_reducible refine (HC.out _ (Below.refl _ _).drew).mono ?_); rintro e w4 ⟨A4, c4, rfl, hx, hc4, b4⟩; have b5 : Below w.heap.size w w4 := ⟨b4.os, b4.tape, b4.output, b4.size, b4.block⟩; obtain ⟨hcc, hff⟩ := bcell b5; have x0 : w4.cell? ⟨g0, 0, none⟩ = some (.slice A L.length c) := (b5.cell (p := ⟨g0, 0, none⟩) hg0).trans q0; have xa := cell_alloc_d (.cells #[.int .u64 (to : Int), .slice A4 l.length c4, .bool false] 47) x0; have hown4a := (own_below hown b5 (Nat.le_refl _)).alloc (.cells #[.int .u64 (to : Int), .slice A4 l.length c4, .bool false] 47); have hsz4 := b5.size; have HX := Lib.hid (And.intro hx (And.intro hc4 b5)); clear hx hc4 b4 b5 hcc hff)
    | (refine step_append_from _ (by rfl) (.tmp 13) (.tmp 18) 25 (by rfl) 0 47 i0 _ 3 40 Try.underlying25 hi hz0 hz1 hz2 rfl (by decide) _ L.length xs (by simp [Act.eval, Act.put]) hown4a (w4.heap.size + 1) (some ⟨w4.heap.size, 0, none⟩) 1 1 [.int .u64 (to : Int), .slice A4 l.length c4, .bool false] (by simp [Act.eval, Act.put]) (At.new w4 [.int .u64 (to : Int), .slice A4 l.length c4, .bool false] _ 3 1 rfl) (one3 _ _ _ _ _) (by unfold maxLen; omega) (by omega) (Nat.zero_le _) ?_; intro v' w5 hown5 hg hat; obtain ⟨A', c', rfl, _, _, _⟩ := own_slice hown5; obtain ⟨x5, xf⟩ := net_cell HN.out HX.out.2.2 hg; have HG := Lib.hid (And.intro hg hat); clear hg hat))
  all_goals
    have hfin := net_append HN.out HX.out.2.2 HX.out.1 hto hm HX.out.2.1 hown5 HG.out.1 HG.out.2
    clear hown5 hown4a HG HX x5 xf xa x0 hown q0 qf
    go_wp2
    go_ret
    exact ⟨rfl, hfin⟩
end Go.Proofs.Ytponmokiogdejaa
