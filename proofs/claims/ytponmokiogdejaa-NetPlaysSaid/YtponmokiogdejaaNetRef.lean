/- The document's net: letters whose bytes may be shared; each change makes a new row. -/
import Derived.Test.YtponmokiogdejaaNetOwn
import Derived.Test.YtponmokiogdejaaNetCopy
import Derived.Test.YtponmokiogdejaaNetCount
import Derived.Test.YtponmokiogdejaaNetOut
namespace Go.Proofs.Ytponmokiogdejaa
open Go.RowKit
set_option linter.unusedSimpArgs false
set_option linter.unusedVariables false

/-- The document's net behind a pointer; what it reads lies in blocks of S. -/
def RefAt (w : World) (S : Nat → Prop) (r0 : Nat) (L : List Let) (A : Option Addr) (c : Nat) (xs : List Value) : Prop :=
  w.cell? ⟨r0, 0, none⟩ = some (.slice A L.length c) ∧ w.frozen? ⟨r0, 0, none⟩ = false ∧ L.length ≤ c ∧ RowsO 3 (LetO w S) xs L ∧ (0 < L.length → ∃ b, A = some ⟨b, 0, none⟩ ∧ S b ∧ w.rangeAt b 0 xs) ∧ ¬ S r0 ∧ r0 < w.heap.size ∧ ∀ k, S k → k < w.heap.size
def RefO (w : World) (S : Nat → Prop) (r0 : Nat) (L : List Let) : Prop := ∃ A c xs, RefAt w S r0 L A c xs
theorem RefAt.keep {w w' : World} {S : Nat → Prop} {r0 : Nat} {L : List Let} {A : Option Addr} {c : Nat} {xs : List Value} (h : RefAt w S r0 L A c xs) (hs : w.heap.size ≤ w'.heap.size) (hb : ∀ k, S k ∨ k = r0 → w'.heap[k]? = w.heap[k]?) : RefAt w' S r0 L A c xs := by
  obtain ⟨h1, h2, h3, h4, h5, h6, h7, h8⟩ := h
  have hr := hb r0 (.inr rfl)
  refine ⟨(World.cell?_of_block (a := ⟨r0, 0, none⟩) hr).trans h1, (World.frozen?_of_block (a := ⟨r0, 0, none⟩) hr).trans h2, h3, h4.mono fun ds x hx => hx.keep (fun _ h => h) (fun p hp => ⟨World.cell?_of_block (hb p.block (.inl hp)), World.frozen?_of_block (hb p.block (.inl hp))⟩), fun hn => ?_, h6, by omega, fun k hk => by have := h8 k hk; omega⟩
  obtain ⟨b, e, hS, hc⟩ := h5 hn
  exact ⟨b, e, hS, fun j u hu => (World.cell?_of_block (hb b (.inl hS))).trans (hc j u hu)⟩
theorem RefAt.below {w w' : World} {S : Nat → Prop} {r0 : Nat} {L : List Let} {A : Option Addr} {c : Nat} {xs : List Value} (h : RefAt w S r0 L A c xs) (hb : Below w.heap.size w w') : RefAt w' S r0 L A c xs :=
  h.keep hb.size fun k hk => hb.block k (by rcases hk with hk | rfl <;> first | exact h.2.2.2.2.2.2.2 k hk | exact h.2.2.2.2.2.2.1)
theorem RefAt.at {w : World} {S : Nat → Prop} {r0 : Nat} {L : List Let} {A : Option Addr} {c : Nat} {xs : List Value} (h : RefAt w S r0 L A c xs) : At w w.heap.size 3 A L.length xs := by
  obtain ⟨h1, h2, h3, h4, h5, h6, h7, h8⟩ := h
  refine ⟨h4.1, fun hn => ?_⟩
  obtain ⟨b, e, hS, hc⟩ := h5 hn
  exact ⟨b, 0, e, h8 b hS, hc⟩
theorem RefAt.row {w : World} {S : Nat → Prop} {r0 : Nat} {L : List Let} {A : Option Addr} {c : Nat} {xs : List Value} (h : RefAt w S r0 L A c xs) {k : Nat} (hk : k < L.length) :
    ∃ b B d, A = some ⟨b, 0, none⟩ ∧ S b ∧ b < w.heap.size ∧ b ≠ r0 ∧ (w.cell? ⟨b, k * 3, none⟩ = some (.int .u64 (L[k].to : Int)) ∧ w.cell? ⟨b, k * 3 + 1, none⟩ = some (.slice B L[k].fr.length d) ∧ w.cell? ⟨b, k * 3 + 2, none⟩ = some (.bool L[k].sp)) ∧
      LetO w S [.int .u64 (L[k].to : Int), .slice B L[k].fr.length d, .bool L[k].sp] L[k] ∧ L[k].to < 18446744073709551616 ∧ L[k].fr.length ≤ 140737488355328 ∧ L[k].fr.length ≤ d ∧ Fr w S B L[k].fr := by
  obtain ⟨h1, h2, h3, h4, h5, h6, h7, h8⟩ := h
  obtain ⟨b, e, hS, hc⟩ := h5 (by omega)
  have hx := h4.2 k _ (List.getElem?_eq_getElem hk)
  have hl := h4.1
  obtain ⟨B, d, e0, e1, e2, e3, e4⟩ := hx
  have hg : ∀ i u, ([.int .u64 (L[k].to : Int), .slice B L[k].fr.length d, .bool L[k].sp] : List Value)[i]? = some u → w.cell? ⟨b, k * 3 + i, none⟩ = some u := fun i u hu => by
    rw [← e0, List.getElem?_take] at hu
    split at hu
    · rw [List.getElem?_drop] at hu
      have := hc (k * 3 + i) u hu
      rwa [Nat.zero_add] at this
    · cases hu
  exact ⟨b, B, d, e, hS, h8 b hS, fun e => h6 (e ▸ hS), ⟨hg 0 _ rfl, hg 1 _ rfl, hg 2 _ rfl⟩, ⟨B, d, rfl, e1, e2, e3, e4⟩, e1, e2, e3, e4⟩
/-- The blocks of S, and the new ones. -/
def More (S : Nat → Prop) (w w' : World) (k : Nat) : Prop := S k ∨ (w.heap.size ≤ k ∧ k < w'.heap.size)
/-- What a call does to the document's net. -/
def RefDid (w : World) (S : Nat → Prop) (r0 : Nat) (L : List Let) (w' : World) : Prop := RefO w' (More S w w') r0 L ∧ Only (fun k => k = r0) w w'
theorem ref_put {w W5 : World} {S : Nat → Prop} {r0 : Nat} {L R : List Let} {A : Option Addr} {c : Nat} {xs : List Value} (h : RefAt w S r0 L A c xs) (hb : Below w.heap.size w W5) {A' : Option Addr} {c' : Nat} {ys : List Value}
    (hown : W5.ownsRow w.heap.size 47 3 (.slice A' R.length c') R.length ys) (hr : RowsO 3 (LetO W5 (More S w W5)) ys R) : RefDid w S r0 R (W5.setCell ⟨r0, 0, none⟩ (.slice A' R.length c')) := by
  obtain ⟨h1, h2, h3, h4, h5, h6, h7, h8⟩ := h
  have s5 := hb.size
  obtain ⟨A2, c2, e2, hc2, _, hat⟩ := own_slice hown
  injection e2 with e21 _ e23
  subst e21 e23
  obtain ⟨W, hW⟩ : ∃ W, W = W5.setCell ⟨r0, 0, none⟩ (.slice A' R.length c') := ⟨_, rfl⟩
  have sW : W.heap.size = W5.heap.size := by rw [hW]; simp [World.setCell]
  have kW : ∀ k, k ≠ r0 → W.heap[k]? = W5.heap[k]? := fun k hk => by rw [hW]; exact Below.heap_setCell _ _ _ k hk
  have hc5 : W5.cell? ⟨r0, 0, none⟩ = some (.slice A L.length c) := (hb.cell (p := ⟨r0, 0, none⟩) h7).trans h1
  have os : W.os = W5.os ∧ W.tape = W5.tape ∧ W.output = W5.output := by rw [hW]; exact ⟨rfl, rfl, rfl⟩
  have hne : ∀ k, More S w W5 k → k ≠ r0 := fun k hk e => by
    rcases hk with hk | hk
    · exact h6 (e ▸ hk)
    · omega
  have hm : ∀ k, More S w W5 k → More S w W k := fun k hk => by
    rcases hk with hk | hk
    · exact .inl hk
    · exact .inr ⟨hk.1, by omega⟩
  have c1 : W.cell? ⟨r0, 0, none⟩ = some (.slice A' R.length c') := by rw [hW]; exact World.cell?_setCell_same _ _ _ hc5
  have f1 : W.frozen? ⟨r0, 0, none⟩ = false := by rw [hW, World.frozen?_setCell]; exact (hb.frozen (p := ⟨r0, 0, none⟩) h7).trans h2
  rw [← hW]
  clear hW
  refine ⟨⟨A', c', ys, c1, f1, hc2, hr.mono fun ds x hx => hx.keep hm (fun p hp => ⟨World.cell?_of_block (kW _ (hne _ hp)), World.frozen?_of_block (kW _ (hne _ hp))⟩), fun hn => ?_, fun hp => ?_, by omega, fun k hk => ?_⟩, os.1.trans hb.os, os.2.1.trans hb.tape, os.2.2.trans hb.output, by omega, fun k hk hn => (kW k hn).trans (hb.block k hk)⟩
  · obtain ⟨g, cap, hv, hg, hlt⟩ := hown.form hn
    injection hv with hv _ _
    obtain ⟨b, o, e, _, hcs⟩ := hat.2 hn
    rw [e] at hv
    injection hv with hv
    injection hv with hv1 hv2 _
    subst hv1 hv2
    exact ⟨b, e, .inr ⟨hg, by omega⟩, fun j u hu => (World.cell?_of_block (kW b (by omega))).trans (hcs j u hu)⟩
  · rcases hp with hp | hp
    · exact h6 hp
    · omega
  · rcases hk with hk | hk
    · have := h8 k hk; omega
    · exact hk.2
theorem one_lets {w : World} {S : Nat → Prop} {xs : List Value} {L : List Let} (h : RowsO 3 (LetO w S) xs L) : ∀ u ∈ xs, u.oneCell' = true := by
  intro u hu
  obtain ⟨i, hi, rfl⟩ := List.getElem_of_mem hu
  have hl := h.1
  have hj : i / 3 < L.length := by omega
  obtain ⟨A, c, e, _⟩ := h.2 (i / 3) _ (List.getElem?_eq_getElem hj)
  have hx : ((xs.drop (i / 3 * 3)).take 3)[i % 3]? = some xs[i] := by
    rw [List.getElem?_take, if_pos (by omega), List.getElem?_drop, show i / 3 * 3 + i % 3 = i by omega, List.getElem?_eq_getElem hi]
  rw [e] at hx
  exact one3 _ _ _ _ _ _ (List.mem_of_getElem? hx)
theorem more_keep {w W W' : World} {S : Nat → Prop} {xs : List Value} {L : List Let} (h : RowsO 3 (LetO W (More S w W)) xs L) (hS : ∀ k, S k → k < W.heap.size) (hb : Below W.heap.size W W') : RowsO 3 (LetO W' (More S w W')) xs L := by
  have s := hb.size
  refine h.mono fun ds x hx => hx.keep (fun k hk => ?_) (fun p hp => ?_)
  · rcases hk with hk | hk
    · exact .inl hk
    · exact .inr ⟨hk.1, by omega⟩
  · have hk : W'.heap[p.block]? = W.heap[p.block]? := hb.block _ (by rcases hp with hp | hp <;> first | exact hS _ hp | exact hp.2)
    exact ⟨World.cell?_of_block hk, World.frozen?_of_block hk⟩
/-- What lay there, and what lies in blocks that are none of a row's. -/
theorem more_grown {w W W' : World} {S : Nat → Prop} {xs : List Value} {L : List Let} {row : Option Nat} (h : RowsO 3 (LetO W fun k => More S w W k ∧ some k ≠ row) xs L) (hS : ∀ k, S k → k < W.heap.size) (hg : W.grownBy W' row) : RowsO 3 (LetO W' (More S w W')) xs L := by
  have s := hg.size
  refine h.mono fun ds x hx => hx.keep (fun k hk => ?_) (fun p hp => ?_)
  · rcases hk.1 with hk | hk
    · exact .inl hk
    · exact .inr ⟨hk.1, by omega⟩
  · have hk : W'.heap[p.block]? = W.heap[p.block]? := hg.block p.block (by rcases hp.1 with hp | hp <;> first | exact hS _ hp | exact hp.2) hp.2
    exact ⟨World.cell?_of_block hk, World.frozen?_of_block hk⟩
end Go.Proofs.Ytponmokiogdejaa
