/- NodeOwn, reckoned by the kernel: what is known of texts that rise, up to the first that doesn't. -/
import Derived.Test.YtinodpaacnnjcaaEvTold
import Derived.Test.YtinodpaacnnjcaaEvRow
set_option linter.unusedSimpArgs false
set_option linter.unusedVariables false
namespace Go.Proofs.Ytinodpaacnnjcaa
open Go.RowKit

theorem no_known_reck : Ev.reck Try.prog ev_told 1000000 4 [] = true := by kernel_rfl
theorem no_known : Ev.SureOK Try.prog 4 := fun w => ev_true (args := []) rfl no_known_reck w
theorem no_sure : ∀ f ∈ [4], Ev.SureOK Try.prog f := by
  intro f hf
  simp only [List.mem_cons, List.not_mem_nil, or_false] at hf
  subst hf
  exact no_known
def noV (k : Nat) : Value := .complex .f64 k 1
def noI (n : Int) : Value := .int .i64 n
def noVal (ks : List ByteArray) (n : Int) (k : Nat) : Value :=
  bif Nat.blt k 8 then .string (ks.getD k ByteArray.empty) else .int .i64 (match k with | 8 => n | 9 => IntKind.i64.wrap (n + 1) | 10 => IntKind.i64.wrap (n + 2) | 11 => IntKind.i64.wrap (n + 3) | _ => IntKind.i64.wrap (n + 4))
theorem no_one (ks : List ByteArray) (n : Int) (k : Nat) : (∃ j m, noVal ks n k = .int j m) ∨ (∃ s, noVal ks n k = .string s) ∨ (∃ a, noVal ks n k = .pointer (some a)) ∨ ∃ a m c, noVal ks n k = .slice (some a) m c := by
  unfold noVal
  cases Nat.blt k 8 with
  | true => exact .inr (.inl ⟨_, rfl⟩)
  | false => exact .inl ⟨_, _, rfl⟩
def noBase : List Ev.Fact := [⟨.eql, noV 0, noV 0, .bool true⟩, ⟨.add, noV 8, noI 1, noV 9⟩, ⟨.add, noV 8, noI 2, noV 10⟩, ⟨.add, noV 8, noI 3, noV 11⟩, ⟨.add, noV 8, noI 4, noV 12⟩, ⟨.eql, noV 8, noV 8, .bool true⟩]
def noUps (m : Nat) : List Ev.Fact := (List.range m).flatMap fun k => [⟨.geq, noV k, noV (k + 1), .bool false⟩, ⟨.lss, noV k, noV (k + 1), .bool true⟩]
def noFacts (m : Nat) (bad : Bool) : List Ev.Fact := noBase ++ noUps m ++ bif bad then [⟨.geq, noV m, noV (m + 1), .bool true⟩] else []
theorem no_str {ks : List ByteArray} {n : Int} {b o L c k : Nat} (h : k < 8) : Ev.conc (Ev.rowVal (noVal ks n) b o L c) (noV k) = .string (ks.getD k ByteArray.empty) := by
  show Ev.rowVal (noVal ks n) b o L c k = _
  unfold Ev.rowVal noVal
  have h1 : Nat.blt k 100 = true := Nat.ble_eq_true_of_le (by show k + 1 ≤ 100; omega)
  have h2 : Nat.blt k 8 = true := Nat.ble_eq_true_of_le h
  rw [h1, h2]
  rfl
theorem no_facts (ks : List ByteArray) (n : Int) (b o L c m : Nat) (bad : Bool) (hm : m < 8) (hm' : bad = true → m < 7)
    (hup : ∀ k, k < m → Op.bytesLess (ks.getD k ByteArray.empty).toList (ks.getD (k + 1) ByteArray.empty).toList = true)
    (hbad : bad = true → Op.bytesLess (ks.getD m ByteArray.empty).toList (ks.getD (m + 1) ByteArray.empty).toList = false) :
    ∀ f ∈ noFacts m bad, f.ok (Ev.rowVal (noVal ks n) b o L c) := by
  intro f hf
  simp only [noFacts, List.mem_append] at hf
  rcases hf with (hf | hf) | hf
  · simp only [noBase, List.mem_cons, List.not_mem_nil, or_false] at hf
    rcases hf with rfl | rfl | rfl | rfl | rfl | rfl
    · exact .inr ⟨_, _, no_str (by decide), no_str (by decide), by simp [Ev.strRun, Ev.conc]⟩
    · exact .inl ⟨.i64, n, 1, rfl, rfl, rfl⟩
    · exact .inl ⟨.i64, n, 2, rfl, rfl, rfl⟩
    · exact .inl ⟨.i64, n, 3, rfl, rfl, rfl⟩
    · exact .inl ⟨.i64, n, 4, rfl, rfl, rfl⟩
    · exact .inl ⟨.i64, n, n, rfl, rfl, by simp [Ev.intRun, Ev.conc]⟩
  · simp only [noUps, List.mem_flatMap, List.mem_range, List.mem_cons, List.not_mem_nil, or_false] at hf
    obtain ⟨k, hk, rfl | rfl⟩ := hf
    · refine .inr ⟨_, _, no_str (by omega), no_str (by omega), ?_⟩
      simp only [Ev.strRun, hup k hk]; rfl
    · refine .inr ⟨_, _, no_str (by omega), no_str (by omega), ?_⟩
      simp only [Ev.strRun, hup k hk]; rfl
  · cases bad with
    | false => simp at hf
    | true =>
      simp only [cond_true, List.mem_cons, List.not_mem_nil, or_false] at hf
      subst hf
      have := hm' rfl
      refine .inr ⟨_, _, no_str (by omega), no_str (by omega), ?_⟩
      simp only [Ev.strRun, hbad rfl]; rfl
abbrev noVars (ks : List ByteArray) (n : Int) (b o L c : Nat) (arr : Array Value) (e : TypeId) (fz : Nat × Nat) (hL : L < 100) (harr : ∀ i, i < L → arr[o + i]? = some (noVal ks n i)) (m : Nat) (bad : Bool)
    (hf : ∀ f ∈ noFacts m bad, f.ok (Ev.rowVal (noVal ks n) b o L c)) : Ev.Vars :=
  Ev.rowVars (noVal ks n) b o L c arr e fz hL harr (no_one ks n) (noFacts m bad) [] hf (fun m hm => by cases hm)
def noRun (L m : Nat) (bad : Bool) : Prop := ∀ (ks : List ByteArray) (n : Int) (b o c : Nat) (arr : Array Value) (e : TypeId) (fz : Nat × Nat) (hL : L < 100) (harr : ∀ i, i < L → arr[o + i]? = some (noVal ks n i)) (hf : ∀ f ∈ noFacts m bad, f.ok (Ev.rowVal (noVal ks n) b o L c)),
  @Ev.reck (noVars ks n b o L c arr e fz hL harr m bad hf) Try.prog { ev_told with sure := [4] } 1000000 3 [noV 100, noV 8] = true
theorem no_in {L m : Nat} {bad : Bool} (hr : noRun L m bad) {ks : List ByteArray} {n : Int} {A : Option Addr} {c : Nat} {w : World} (hks : ks.length = L) (h0 : 0 < L) (hL : L ≤ 8) (hat : At w w.heap.size 1 A L (ks.map Value.string))
    (hm : m < 8) (hm' : bad = true → m < 7)
    (hup : ∀ k, k < m → Op.bytesLess (ks.getD k ByteArray.empty).toList (ks.getD (k + 1) ByteArray.empty).toList = true)
    (hbad : bad = true → Op.bytesLess (ks.getD m ByteArray.empty).toList (ks.getD (m + 1) ByteArray.empty).toList = false) :
    Calls Try.prog 3 #[.slice A L c, .int .i64 n] w fun e w' => e = .returned (.bool true) ∧ Below w.heap.size w w' := by
  obtain ⟨b, o, rfl, hb, hrange⟩ := hat.2 h0
  have hcell : ∀ i, i < L → w.cell? ⟨b, o + i, none⟩ = some (.string (ks.getD i ByteArray.empty)) := by
    intro i hi
    have : (ks.map Value.string)[i]? = some (.string (ks.getD i ByteArray.empty)) := by
      rw [List.getElem?_map, List.getElem?_eq_getElem (by omega)]
      simp [List.getD, List.getElem?_eq_getElem (show i < ks.length by omega)]
    exact hrange i _ this
  obtain ⟨arr, e, fz, hw⟩ : ∃ arr e fz, w.heap[b]? = some (.cells arr e fz) := by
    have h1 := hcell 0 h0
    simp only [World.cell?] at h1
    split at h1
    · rename_i arr e fz hw; exact ⟨arr, e, fz, hw⟩
    · cases h1
  have harr : ∀ i, i < L → arr[o + i]? = some (noVal ks n i) := by
    intro i hi
    have h1 := hcell i hi
    simp only [World.cell?, hw] at h1
    have h2 : Nat.blt i 8 = true := Nat.ble_eq_true_of_le (by show i + 1 ≤ 8; omega)
    unfold noVal
    rw [h2]
    simpa using h1
  have hf := no_facts ks n b o L c m bad hm hm' hup hbad
  exact @ev_true_ro (noVars ks n b o L c arr e fz (by omega) harr m bad hf) [4] no_sure 3 [noV 100, noV 8] rfl (hr ks n b o c arr e fz (by omega) harr hf) w (fun k x hk => by
    have hk : (if k = b then some (Obj.cells arr e fz) else none) = some x := hk
    by_cases h : k = b
    · rw [if_pos h] at hk; cases hk; rw [h]; exact hw
    · rw [if_neg h] at hk; cases hk)
end Go.Proofs.Ytinodpaacnnjcaa
