import Derived.Test.YthaikagelloeoaaDoorValDeep
namespace Go.Proofs.YthaikagelloeoaaDoor
open Go.RowKit Val

/-- A value that has no parts. -/
def flat (k : Int) (b : Bool) (i : Int) (s : List UInt8) : Val := .mk k b i s [] []
theorem vin_flat (w : World) (B n : Nat) (k : Int) (b : Bool) (i : Int) (s : List UInt8) (hk : I64 k) (hi : I64 i) (hs : s.length ≤ 140737488351232) (hn : 0 < n) :
    VIn w B n [.int .i64 k, .bool b, .int .i64 i, .string (bs s), .slice none 0 0, .slice none 0 0] (flat k b i s) := by
  match n, hn with
  | n + 1, _ => exact ⟨none, 0, none, 0, rfl, hk, hi, hs, by simp [flat, Val.l], by simp [flat, Val.o], by simp [flat, Val.l], by simp [flat, Val.o], fun j x h => by simp [flat, Val.l] at h, fun j x h => by simp [flat, Val.o] at h⟩
def listV (l : List Val) : Val := .mk 5 false 0 [] l []
def objV (o : List (List UInt8 × Val)) : Val := .mk 6 false 0 [] [] o
theorem vin_list {w : World} {B n g cap : Nat} (l : List Val) (hl : l.length ≤ 1000) (hc : l.length ≤ cap) (hg : g < B)
    (h : ∀ (j : Nat) (x : Val), l[j]? = some x → ∃ ds, w.rangeAt g (0 + j * 6) ds ∧ VIn w B n ds x) :
    VIn w B (n + 1) [.int .i64 5, .bool false, .int .i64 0, .string (bs []), .slice (some ⟨g, 0, none⟩) l.length cap, .slice none 0 0] (listV l) :=
  ⟨some ⟨g, 0, none⟩, cap, none, 0, rfl, ⟨by simp [listV, Val.k], by simp [listV, Val.k]⟩, ⟨by simp [listV, Val.i], by simp [listV, Val.i]⟩, by simp [listV, Val.s], by simp [listV, Val.l]; omega, by simp [listV, Val.o], hc, by simp [listV, Val.o],
    fun j x hx => by obtain ⟨ds, h1, h2⟩ := h j x hx; exact ⟨g, 0, ds, rfl, hg, h1, h2⟩, fun j x h => by simp [listV, Val.o] at h⟩
theorem vin_obj {w : World} {B n g cap : Nat} (l : List (List UInt8 × Val)) (hl : l.length ≤ 1000) (hc : l.length ≤ cap) (hg : g < B)
    (h : ∀ (j : Nat) (m : List UInt8 × Val), l[j]? = some m → ∃ ds, w.rangeAt g (0 + j * 7) (.string (bs m.1) :: ds) ∧ m.1.length ≤ 140737488351232 ∧ VIn w B n ds m.2) :
    VIn w B (n + 1) [.int .i64 6, .bool false, .int .i64 0, .string (bs []), .slice none 0 0, .slice (some ⟨g, 0, none⟩) l.length cap] (objV l) :=
  ⟨none, 0, some ⟨g, 0, none⟩, cap, rfl, ⟨by simp [objV, Val.k], by simp [objV, Val.k]⟩, ⟨by simp [objV, Val.i], by simp [objV, Val.i]⟩, by simp [objV, Val.s], by simp [objV, Val.l], by simp [objV, Val.o]; omega, by simp [objV, Val.l], hc,
    fun j x h => by simp [objV, Val.l] at h, fun j x hx => by obtain ⟨ds, h1, h2, h3⟩ := h j x hx; exact ⟨g, 0, ds, rfl, hg, h1, h2, h3⟩⟩

theorem known_num (n : Int) (w : World) : Calls Tryd.prog 34 #[.int .i64 n] w fun e w' => e = .returned (.agg #[.int .i64 3, .bool false, .int .i64 n, .string ⟨#[]⟩, .slice none 0 0, .slice none 0 0]) ∧ Below w.heap.size w w' := by
  go_enter Tryd.func34, Tryd.ntmps34
  go_wp2
  refine bodyPost_ret (v := .agg #[.int .i64 3, .bool false, .int .i64 n, .string ⟨#[]⟩, .slice none 0 0, .slice none 0 0]) (by simp [results, Tryd.results34, go_sem]) rfl ⟨rfl, ?_⟩
  go_grown
theorem known_list (A : Option Addr) (n c : Nat) (w : World) : Calls Tryd.prog 33 #[.slice A n c] w fun e w' => e = .returned (.agg #[.int .i64 5, .bool false, .int .i64 0, .string ⟨#[]⟩, .slice A n c, .slice none 0 0]) ∧ Below w.heap.size w w' := by
  go_enter Tryd.func33, Tryd.ntmps33
  go_wp2
  refine bodyPost_ret (v := .agg #[.int .i64 5, .bool false, .int .i64 0, .string ⟨#[]⟩, .slice A n c, .slice none 0 0]) (by simp [results, Tryd.results33, go_sem]) rfl ⟨rfl, ?_⟩
  go_grown
theorem range_of_row {w : World} {g : Nat} {cs : Array Value} {t : TypeId} (h : w.heap[g]? = some (.cells cs t (0, 0))) (o : Nat) (ds : List Value) (hd : ∀ i v, ds[i]? = some v → cs[o + i]? = some v) : w.rangeAt g o ds := fun i v hv => by
  rw [cell_of_row _ _ _ _ t (0, 0) h]
  exact hd i v hv
theorem known_obj (k : ByteArray) (a b c d e f : Value) (w : World) : Calls Tryd.prog 35 #[.string k, .agg #[a, b, c, d, e, f]] w fun e' w' => ∃ g, w.heap.size ≤ g ∧ g < w'.heap.size ∧ w'.heap[g]? = some (.cells #[.string k, a, b, c, d, e, f] 46 (0, 0)) ∧ e' = .returned (.agg #[.int .i64 6, .bool false, .int .i64 0, .string ⟨#[]⟩, .slice none 0 0, .slice (some ⟨g, 0, none⟩) 1 1]) ∧ Below w.heap.size w w' := by
  have hr : ∀ Y Z : Obj, (((w.alloc (.cells #[a, b, c, d, e, f] 26)).alloc Y).alloc Z).heap[w.heap.size + 1]? = some Y := fun Y Z => by
    have h1 := heap_alloc_new (w.alloc (.cells #[a, b, c, d, e, f] 26)) Y
    rw [World.size_alloc] at h1
    rw [Below.heap_alloc _ _ _ (by simp)]
    exact h1
  have hz : ∀ Y Z : Obj, (((w.alloc (.cells #[a, b, c, d, e, f] 26)).alloc Y).alloc Z).heap[w.heap.size + 1 + 1]? = some Z := fun Y Z => by
    have h1 := heap_alloc_new ((w.alloc (.cells #[a, b, c, d, e, f] 26)).alloc Y) Z
    rw [World.size_alloc, World.size_alloc] at h1
    exact h1
  have HR := Lib.hid hr
  have HZ := Lib.hid hz
  clear hr hz
  go_enter Tryd.func35, Tryd.ntmps35
  go_wp2
  have hrow := HR.out (Obj.cells #[Value.int IntKind.i64 6, Value.bool false, Value.int IntKind.i64 0, Value.string { data := #[] }, Value.slice none 0 0, Value.slice (some { block := w.heap.size + 1 + 1, off := 0 }) 1 1] 26) (Obj.cells #[Value.string k, a, b, c, d, e, f] 46)
  refine bodyPost_ret (v := .agg #[.int .i64 6, .bool false, .int .i64 0, .string ⟨#[]⟩, .slice none 0 0, .slice (some ⟨w.heap.size + 1 + 1, 0, none⟩) 1 1]) ?_ rfl ⟨w.heap.size + 1 + 1, by omega, by simp, HZ.out _ _, rfl, ?_⟩
  · exact results_mid rfl _ _ (w.heap.size + 1) 0 [.int .i64 6, .bool false, .int .i64 0, .string ⟨#[]⟩, .slice none 0 0, .slice (some ⟨w.heap.size + 1 + 1, 0, none⟩) 1 1] _ rfl (range_of_row hrow 0 _ (fun i v h => by rw [Nat.zero_add, ← Array.getElem?_toList]; exact h)) Tryd.underlying26 rfl (by kernel_rfl)
  · go_grown

def k1 : Val := listV [flat 3 false 1 [], listV [flat 3 false 2 []], objV [([97], .mk 5 false 0 [] [] [])]]
def kl : List Val := [flat 1 false 0 [], flat 2 false 0 [], flat 3 false 3 [], flat 4 false 0 [97], .mk 5 false 0 [] [] [], listV [flat 3 false 1 []], .mk 6 false 0 [] [] []]
theorem k1_deep : deep 4 k1 = 3 := by decide +kernel
theorem k1_size : size 4 k1 = 6 := by decide +kernel
theorem kl_cmp : (List.range 6).all (fun i => match kl[i]?, kl[i + 1]? with | some x, some y => cmp 4 x y == -1 && may 4 x 1 == 0 | _, _ => false) = true := by decide +kernel
end Go.Proofs.YthaikagelloeoaaDoor
