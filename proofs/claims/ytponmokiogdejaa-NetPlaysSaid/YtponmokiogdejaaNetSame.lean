import Derived.Test.YtponmokiogdejaaNetDelete
import Derived.Test.YtponmokiogdejaaStr
import Derived.Deep.DeepCutAuto
import Derived.Deep.CutBlock
namespace Go.Proofs.Ytponmokiogdejaa
open Go.RowKit
set_option linter.unusedSimpArgs false
set_option linter.unusedVariables false

/-- 'string(b)' of bytes that are read. -/
theorem conv_at {P : Program} {src e dst : TypeId} (hs : P.underlying src = some (.slice e)) (he : P.underlying e = some (.int .u8)) (hd : P.underlying dst = some .string) (w : World) {B : Nat} {A : Option Addr} {l : List UInt8} (c : Nat)
    (h : At w B 1 A l.length (l.map u8v)) : (convert src dst (.slice A l.length c)).run P w = .ok (.string (bs l)) w := by
  by_cases h0 : l.length = 0
  · obtain rfl := List.length_eq_zero_iff.1 h0
    rw [run_convert_bytes_string w src dst e _ _ c hs he hd]
    cases A <;> simp [Conv.bytesToString, loadCells] <;> rfl
  · obtain ⟨b, o, rfl, hb, _⟩ := h.byte (k := 0) (by omega)
    rw [run_convert_bytes_arg w src e hs he b o l.length c (l.map fun x => (x.toNat : Int)) (by simp) (fun i hi => ?_) dst hd]
    · have : strOfNums (l.map fun x => (x.toNat : Int)) = bs l := eq_bs (by rw [strOfNums_data, List.map_map]; exact (List.map_congr_left fun x _ => by simp).trans (List.map_id l))
      rw [this]
    · obtain ⟨b', o', e', _, hc⟩ := h.byte hi
      injection e' with e'
      injection e' with e1 e2 _
      subst e1 e2
      rw [hc]
      simp [List.getD, hi]

set_option maxRecDepth 100000 in
set_option maxHeartbeats 2000000 in
/-- A letter is the same as itself, wherever it lies. -/
theorem sameLetter_any (x : Let) (A A' : Option Addr) (c c' : Nat) (w : World) (h1 : At w w.heap.size 1 A x.fr.length (x.fr.map u8v)) (h2 : At w w.heap.size 1 A' x.fr.length (x.fr.map u8v)) :
    Calls Try.prog 22 #[.agg #[.int .u64 (x.to : Int), .slice A x.fr.length c, .bool x.sp], .agg #[.int .u64 (x.to : Int), .slice A' x.fr.length c', .bool x.sp]] w
      fun e w' => e = .returned (.bool true) ∧ Below w.heap.size w w' := by
  have hc1 := Lib.hid fun W (hW : Below w.heap.size w W) => conv_at (P := Try.prog) Try.underlying34 Try.underlying5 Try.underlying9 W c (h1.arg hW)
  have hc2 := Lib.hid fun W (hW : Below w.heap.size w W) => conv_at (P := Try.prog) Try.underlying34 Try.underlying5 Try.underlying9 W c' (h2.arg hW)
  obtain ⟨w1, hw1⟩ : ∃ w1, (w.alloc (.cells #[.int .u64 (x.to : Int), .slice A x.fr.length c, .bool x.sp] 47)).alloc (.cells #[.int .u64 (x.to : Int), .slice A' x.fr.length c', .bool x.sp] 47) = w1 := ⟨_, rfl⟩
  have b1 : Below w.heap.size w w1 := by rw [← hw1]; exact ((Below.refl _ w).alloc (Nat.le_refl _) _).alloc (by simp) _
  have k1 := hc1.out w1 b1
  have k2 := hc2.out w1 b1
  have HB := Lib.hid b1
  have o1 : w1.heap[w.heap.size]? = some (.cells #[.int .u64 (x.to : Int), .slice A x.fr.length c, .bool x.sp] 47 (0, 0)) := by rw [← hw1]; exact heap_alloc2_old w _ _
  have o2 : w1.heap[w.heap.size + 1]? = some (.cells #[.int .u64 (x.to : Int), .slice A' x.fr.length c', .bool x.sp] 47 (0, 0)) := by rw [← hw1]; exact heap_alloc2_new w _ _
  have p0 : w1.cell? ⟨w.heap.size, 0, none⟩ = some (.int .u64 (x.to : Int)) := by rw [cell_of_row _ _ 0 _ _ (0, 0) o1]; rfl
  have p1 : w1.cell? ⟨w.heap.size, 1, none⟩ = some (.slice A x.fr.length c) := by rw [cell_of_row _ _ 1 _ _ (0, 0) o1]; rfl
  have p2 : w1.cell? ⟨w.heap.size, 2, none⟩ = some (.bool x.sp) := by rw [cell_of_row _ _ 2 _ _ (0, 0) o1]; rfl
  have r0 : w1.cell? ⟨w.heap.size + 1, 0, none⟩ = some (.int .u64 (x.to : Int)) := by rw [cell_of_row _ _ 0 _ _ (0, 0) o2]; rfl
  have r1 : w1.cell? ⟨w.heap.size + 1, 1, none⟩ = some (.slice A' x.fr.length c') := by rw [cell_of_row _ _ 1 _ _ (0, 0) o2]; rfl
  have r2 : w1.cell? ⟨w.heap.size + 1, 2, none⟩ = some (.bool x.sp) := by rw [cell_of_row _ _ 2 _ _ (0, 0) o2]; rfl
  have HW := Lib.hid hw1
  have e1 : ((bs x.fr).toList == (bs x.fr).toList) = true := by simp
  have e2 : (x.sp == x.sp) = true := by simp
  clear hc1 hc2 h1 h2 b1 hw1 o1 o2
  go_enter Try.func22, Try.ntmps22
  go_upto_region 1 with fail
  rw [HW.out]
  go_wp2
  all_goals
    go_ret
    exact ⟨rfl, HB.out⟩
end Go.Proofs.Ytponmokiogdejaa
