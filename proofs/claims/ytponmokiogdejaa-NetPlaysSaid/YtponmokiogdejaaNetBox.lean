import Derived.Test.YtponmokiogdejaaNetRefSame
import Derived.Test.YtponmokiogdejaaTrod
namespace Go.Proofs.Ytponmokiogdejaa
open Go.RowKit
set_option linter.unusedSimpArgs false
set_option linter.unusedVariables false

/-- A net, and the document's one, made in the walk that began at w. -/
def NP (P : List (Nat × Obj)) (w : World) (g0 r0 : Nat) (L R : List Let) (W : World) : Prop :=
  ∃ M S : Nat → Prop, NetO W M g0 L ∧ RefO W S r0 R ∧ Below w.heap.size w W ∧ (∀ k, M k → w.heap.size ≤ k ∧ ¬ S k ∧ k ≠ r0) ∧ w.heap.size ≤ r0 ∧ ∀ p ∈ P, ¬ M p.1 ∧ p.1 ≠ r0 ∧ W.heap[p.1]? = some p.2
section
variable {P : List (Nat × Obj)} {w W W' : World} {g0 r0 : Nat} {L R : List Let}
theorem NP.bel (h : NP P w g0 r0 L R W) : Below w.heap.size w W := by obtain ⟨M, S, _, _, h, _⟩ := h; exact h
theorem NP.nr (h : NP P w g0 r0 L R W) : NR w g0 r0 L R W := by
  obtain ⟨M, S, h1, h2, h3, h4, h5, _⟩ := h
  exact ⟨M, S, h1, h2, h3, h4, h5⟩
theorem NR.np (h : NR w g0 r0 L R W) : NP [] w g0 r0 L R W := by
  obtain ⟨M, S, h1, h2, h3, h4, h5⟩ := h
  exact ⟨M, S, h1, h2, h3, h4, h5, fun p hp => by cases hp⟩
theorem NP.box (h : NP P w g0 r0 L R W) {b : Nat} {o : Obj} (hb : (b, o) ∈ P) : W.heap[b]? = some o := by
  obtain ⟨M, S, h1, h2, h3, h4, h5, h6⟩ := h
  exact (h6 _ hb).2.2
theorem lt_of_some {w : World} {b : Nat} {o : Obj} (h : w.heap[b]? = some o) : b < w.heap.size := (Array.getElem?_eq_some_iff.1 h).1
theorem NP.then (h : NP P w g0 r0 L R W) (hb : Below W.heap.size W W') : NP P w g0 r0 L R W' := by
  obtain ⟨M, S, h1, ⟨A, c, xs, h2⟩, h3, h4, h5, h6⟩ := h
  exact ⟨M, S, h1.below hb, ⟨A, c, xs, h2.below hb⟩, h3.trans (hb.mono h3.size), h4, h5, fun p hp => ⟨(h6 p hp).1, (h6 p hp).2.1, (hb.block _ (lt_of_some (h6 p hp).2.2)).trans (h6 p hp).2.2⟩⟩
/-- A box of its own, that nobody writes. -/
theorem NP.add (h : NP P w g0 r0 L R W) (hb : Below W.heap.size W W') {b : Nat} {o : Obj} (hlo : W.heap.size ≤ b) (ho : W'.heap[b]? = some o) : NP ((b, o) :: P) w g0 r0 L R W' := by
  have hr : r0 < W.heap.size := by obtain ⟨M, S, _, ⟨A, c, xs, h2⟩, _⟩ := h; exact h2.2.2.2.2.2.2.1
  have h' := h
  obtain ⟨M, S, h1, ⟨A, c, xs, h2⟩, h3, h4, h5, h6⟩ := h
  refine ⟨M, S, h1.below hb, ⟨A, c, xs, h2.below hb⟩, h3.trans (hb.mono h3.size), h4, h5, fun p hp => ?_⟩
  rcases List.mem_cons.1 hp with rfl | hp
  · exact ⟨fun hm => by have := h1.lt _ hm; simp only at this; omega, by simp only; omega, ho⟩
  · exact ⟨(h6 p hp).1, (h6 p hp).2.1, (hb.block _ (lt_of_some (h6 p hp).2.2)).trans (h6 p hp).2.2⟩
theorem NP.less {p : Nat × Obj} (h : NP (p :: P) w g0 r0 L R W) : NP P w g0 r0 L R W := by
  obtain ⟨M, S, h1, h2, h3, h4, h5, h6⟩ := h
  exact ⟨M, S, h1, h2, h3, h4, h5, fun q hq => h6 q (List.mem_cons_of_mem _ hq)⟩
theorem NP.net {M S : Nat → Prop} {L' : List Let} (h2 : RefO W S r0 R) (h3 : Below w.heap.size w W) (h4 : ∀ k, M k → w.heap.size ≤ k ∧ ¬ S k ∧ k ≠ r0) (h5 : w.heap.size ≤ r0 ∧ ∀ p ∈ P, ¬ M p.1 ∧ p.1 ≠ r0 ∧ W.heap[p.1]? = some p.2) (d1 : NetO W' (Plus M W W') g0 L') (d2 : Only M W W') : NP P w g0 r0 L' R W' := by
  obtain ⟨A, c, xs, h2⟩ := h2
  have s := h3.size
  have hS := h2.2.2.2.2.2.2.2
  have hr := h2.2.2.2.2.2.2.1
  refine ⟨Plus M W W', S, d1, ⟨A, c, xs, h2.keep d2.size fun k hk => d2.block k ?_ fun hm => ?_⟩, h3.trans (d2.below (by omega) fun k hk => (h4 k hk).1), fun k hk => ?_, h5.1, fun p hp => ?_⟩
  · rcases hk with hk | rfl
    · exact hS k hk
    · exact hr
  · rcases hk with hk | rfl
    · exact (h4 k hm).2.1 hk
    · exact (h4 k hm).2.2 rfl
  · rcases hk with hk | hk
    · exact h4 k hk
    · exact ⟨by omega, fun h => by have := hS k h; omega, by omega⟩
  · obtain ⟨p1, p2, p3⟩ := h5.2 p hp
    have hlt := lt_of_some p3
    refine ⟨fun hm => ?_, p2, (d2.block _ hlt p1).trans p3⟩
    rcases hm with hm | hm
    · exact p1 hm
    · omega
theorem NP.ref {M S : Nat → Prop} {R' : List Let} (h1 : NetO W M g0 L) (h3 : Below w.heap.size w W) (h4 : ∀ k, M k → w.heap.size ≤ k ∧ ¬ S k ∧ k ≠ r0) (h5 : w.heap.size ≤ r0 ∧ ∀ p ∈ P, ¬ M p.1 ∧ p.1 ≠ r0 ∧ W.heap[p.1]? = some p.2) (d : RefDid W S r0 R' W') : NP P w g0 r0 L R' W' := by
  have s := h3.size
  have hM := h1.lt
  refine ⟨M, More S W W', h1.keep d.2 fun k hk e => (h4 k hk).2.2 e, d.1, h3.trans (d.2.below (by omega) fun k hk => by omega), fun k hk => ⟨(h4 k hk).1, fun h => ?_, (h4 k hk).2.2⟩, h5.1, fun p hp => ⟨(h5.2 p hp).1, (h5.2 p hp).2.1, (d.2.block _ (lt_of_some (h5.2 p hp).2.2) (h5.2 p hp).2.1).trans (h5.2 p hp).2.2⟩⟩
  rcases h with h | h
  · exact (h4 k hk).2.1 h
  · have := hM k hk; omega
end
/-- An error, and what there is behind it. -/
def DidNP (P : List (Nat × Obj)) (w : World) (g0 r0 : Nat) (L R : List Let) (n : Nat) (e : Ending) (w' : World) : Prop := e = .returned (.int .i64 (n : Int)) ∧ NP P w g0 r0 L R w'
theorem send_np {P : List (Nat × Obj)} {w W : World} {g0 r0 : Nat} {L R : List Let} (h : NP P w g0 r0 L R W) (tw : Nat) (l : List UInt8) (B : Option Addr) (d : Nat) (hL : L.length ≤ 1000000) (h1 : At W W.heap.size 1 B l.length (l.map u8v)) (hm : l.length ≤ 140737488355328) (hto : tw < 18446744073709551616) :
    Calls Try.prog 14 #[.pointer (some ⟨g0, 0, none⟩), .int .u64 (tw : Int), .slice B l.length d] W (DidNP P w g0 r0 (L ++ [⟨tw, l, false⟩]) R 0) := by
  obtain ⟨M, S, k1, k2, k3, k4, k5⟩ := h
  exact (send_any M g0 L tw l B d W k1 hL h1 hm hto).mono fun e w' ⟨he, d1, d2⟩ => ⟨he, NP.net k2 k3 k4 k5 d1 d2⟩
theorem refSend_np {P : List (Nat × Obj)} {w W : World} {g0 r0 : Nat} {L R : List Let} (h : NP P w g0 r0 L R W) (tw : Nat) (l : List UInt8) (B : Option Addr) (d : Nat) (hL : R.length ≤ 1000000) (h1 : At W W.heap.size 1 B l.length (l.map u8v)) (hm : l.length ≤ 140737488355328) (hto : tw < 18446744073709551616) :
    Calls Try.prog 23 #[.pointer (some ⟨r0, 0, none⟩), .int .u64 (tw : Int), .slice B l.length d] W fun e w' => e = .returned (.tuple #[]) ∧ NP P w g0 r0 L (R ++ [⟨tw, l, false⟩]) w' := by
  obtain ⟨M, S, k1, k2, k3, k4, k5⟩ := h
  exact (refSend_any S r0 R tw l B d W k2 hL h1 hm hto).mono fun e w' ⟨he, d1⟩ => ⟨he, NP.ref k1 k3 k4 k5 d1⟩
theorem NP.same {P : List (Nat × Obj)} {w W W' : World} {g0 r0 : Nat} {L R : List Let} {q : Nat} (h : NP P w g0 r0 L R W) (hb : Below W.heap.size W W') : DidNP P w g0 r0 L R q (.returned (.int .i64 (q : Int))) W' := ⟨rfl, h.then hb⟩
theorem drop_np {P : List (Nat × Obj)} {w W : World} {g0 r0 : Nat} {L R : List Let} (h : NP P w g0 r0 L R W) (i : Int) (hL : L.length ≤ 1000000) :
    Calls Try.prog 15 #[.pointer (some ⟨g0, 0, none⟩), .int .i64 i] W (DidNP P w g0 r0 (dropX L i).1 R (dropX L i).2) := by
  by_cases hi : 0 ≤ i ∧ i < L.length
  · have e : dropX L i = (L.eraseIdx i.toNat, 0) := by unfold dropX; rw [if_pos hi]
    obtain ⟨k, rfl⟩ : ∃ k : Nat, i = (k : Int) := ⟨i.toNat, by omega⟩
    rw [e]
    obtain ⟨M, S, k1, k2, k3, k4, k5⟩ := h
    exact (drop_in M g0 k L W k1 (by omega) hL).mono fun e w' ⟨he, d1, d2⟩ => ⟨he, NP.net k2 k3 k4 k5 d1 d2⟩
  · have e : dropX L i = (L, 17) := by unfold dropX; rw [if_neg hi]
    rw [e]
    obtain ⟨M, S, ⟨A, c, xs, k1⟩, k⟩ := h
    exact (dropOut_any i W k1.1 (by omega)).mono fun e w' ⟨he, d1⟩ => ⟨he, NP.then ⟨M, S, ⟨A, c, xs, k1⟩, k⟩ d1⟩
theorem double_np {P : List (Nat × Obj)} {w W : World} {g0 r0 : Nat} {L R : List Let} (h : NP P w g0 r0 L R W) (i : Int) (hL : L.length ≤ 1000000) :
    Calls Try.prog 18 #[.pointer (some ⟨g0, 0, none⟩), .int .i64 i] W (DidNP P w g0 r0 (doubleX L i).1 R (doubleX L i).2) := by
  by_cases hi : 0 ≤ i ∧ i < L.length
  · have e : doubleX L i = (L ++ [L[i.toNat]'(by omega)], 0) := by unfold doubleX; rw [dif_pos hi]
    obtain ⟨k, rfl⟩ : ∃ k : Nat, i = (k : Int) := ⟨i.toNat, by omega⟩
    rw [e]
    obtain ⟨M, S, k1, k2, k3, k4, k5⟩ := h
    exact (double_in M g0 k L W k1 (by omega) hL).mono fun e w' ⟨he, d1, d2⟩ => ⟨he, NP.net k2 k3 k4 k5 d1 d2⟩
  · have e : doubleX L i = (L, 17) := by unfold doubleX; rw [dif_neg hi]
    rw [e]
    obtain ⟨M, S, ⟨A, c, xs, k1⟩, k⟩ := h
    exact (doubleOut_any i W k1.1 (by omega)).mono fun e w' ⟨he, d1⟩ => ⟨he, NP.then ⟨M, S, ⟨A, c, xs, k1⟩, k⟩ d1⟩
theorem spoil_np {P : List (Nat × Obj)} {w W : World} {g0 r0 : Nat} {L R : List Let} (h : NP P w g0 r0 L R W) (i a : Int) (m : UInt8) (hL : L.length ≤ 1000000) (ha1 : -9223372036854775808 ≤ a) (ha2 : a ≤ 9223372036854775807) :
    Calls Try.prog 19 #[.pointer (some ⟨g0, 0, none⟩), .int .i64 i, .int .i64 a, u8v m] W (DidNP P w g0 r0 (spoilAt L i a m).1 R (spoilAt L i a m).2) := by
  by_cases hi : 0 ≤ i ∧ i < L.length
  · have e : spoilAt L i a m = (L.set i.toNat (spoilX (L[i.toNat]'(by omega)) a m).1, (spoilX (L[i.toNat]'(by omega)) a m).2) := by unfold spoilAt; rw [dif_pos hi]
    obtain ⟨k, rfl⟩ : ∃ k : Nat, i = (k : Int) := ⟨i.toNat, by omega⟩
    rw [e]
    obtain ⟨M, S, k1, k2, k3, k4, k5⟩ := h
    exact (netSpoil_in M g0 k L a m W k1 (by omega) hL ha1 ha2).mono fun e w' ⟨he, d1, d2⟩ => ⟨he, NP.net k2 k3 k4 k5 d1 d2⟩
  · have e : spoilAt L i a m = (L, 17) := by unfold spoilAt; rw [dif_neg hi]
    rw [e]
    obtain ⟨M, S, ⟨A, c, xs, k1⟩, k⟩ := h
    exact (spoilOut_any i a m.toNat W k1.1 (by omega)).mono fun e w' ⟨he, d1⟩ => ⟨he, NP.then ⟨M, S, ⟨A, c, xs, k1⟩, k⟩ d1⟩
theorem refDrop_np {P : List (Nat × Obj)} {w W : World} {g0 r0 : Nat} {L R : List Let} (h : NP P w g0 r0 L R W) (i : Int) (hL : R.length ≤ 1000000) :
    Calls Try.prog 30 #[.pointer (some ⟨r0, 0, none⟩), .int .i64 i] W (DidNP P w g0 r0 L (dropX R i).1 (dropX R i).2) := by
  obtain ⟨M, S, k1, k2, k3, k4, k5⟩ := h
  by_cases hi : 0 ≤ i ∧ i < R.length
  · have e : dropX R i = (R.eraseIdx i.toNat, 0) := by unfold dropX; rw [if_pos hi]
    obtain ⟨k, rfl⟩ : ∃ k : Nat, i = (k : Int) := ⟨i.toNat, by omega⟩
    rw [e]
    exact (refDrop_in S r0 k R W k2 (by omega) hL).mono fun e w' ⟨he, d1⟩ => ⟨he, NP.ref k1 k3 k4 k5 d1⟩
  · have e : dropX R i = (R, 17) := by unfold dropX; rw [if_neg hi]
    rw [e]
    exact (refDropOut_any S r0 R i W k2 (by omega)).mono fun e w' ⟨he, d1⟩ => ⟨he, NP.ref k1 k3 k4 k5 d1⟩
theorem refDouble_np {P : List (Nat × Obj)} {w W : World} {g0 r0 : Nat} {L R : List Let} (h : NP P w g0 r0 L R W) (i : Int) (hL : R.length ≤ 1000000) :
    Calls Try.prog 31 #[.pointer (some ⟨r0, 0, none⟩), .int .i64 i] W (DidNP P w g0 r0 L (doubleX R i).1 (doubleX R i).2) := by
  obtain ⟨M, S, k1, k2, k3, k4, k5⟩ := h
  by_cases hi : 0 ≤ i ∧ i < R.length
  · have e : doubleX R i = (R ++ [R[i.toNat]'(by omega)], 0) := by unfold doubleX; rw [dif_pos hi]
    obtain ⟨k, rfl⟩ : ∃ k : Nat, i = (k : Int) := ⟨i.toNat, by omega⟩
    rw [e]
    exact (refDouble_in S r0 k R W k2 (by omega) hL).mono fun e w' ⟨he, d1⟩ => ⟨he, NP.ref k1 k3 k4 k5 d1⟩
  · have e : doubleX R i = (R, 17) := by unfold doubleX; rw [dif_neg hi]
    rw [e]
    exact (refDoubleOut_any S r0 R i W k2 (by omega)).mono fun e w' ⟨he, d1⟩ => ⟨he, NP.ref k1 k3 k4 k5 d1⟩
theorem refSpoil_np {P : List (Nat × Obj)} {w W : World} {g0 r0 : Nat} {L R : List Let} (h : NP P w g0 r0 L R W) (i a : Int) (m : UInt8) (hL : R.length ≤ 1000000) :
    Calls Try.prog 24 #[.pointer (some ⟨r0, 0, none⟩), .int .i64 i, .int .i64 a, u8v m] W (DidNP P w g0 r0 L (spoilAt R i a m).1 (spoilAt R i a m).2) := by
  obtain ⟨M, S, k1, k2, k3, k4, k5⟩ := h
  by_cases hi : 0 ≤ i ∧ i < R.length
  · have e : spoilAt R i a m = (R.set i.toNat (spoilX (R[i.toNat]'(by omega)) a m).1, (spoilX (R[i.toNat]'(by omega)) a m).2) := by unfold spoilAt; rw [dif_pos hi]
    obtain ⟨k, rfl⟩ : ∃ k : Nat, i = (k : Int) := ⟨i.toNat, by omega⟩
    rw [e]
    exact (refSpoil_in S r0 k R a m W k2 (by omega) hL).mono fun e w' ⟨he, d1⟩ => ⟨he, NP.ref k1 k3 k4 k5 d1⟩
  · have e : spoilAt R i a m = (R, 17) := by unfold spoilAt; rw [dif_neg hi]
    rw [e]
    exact (refSpoilOut_any S r0 R i a m.toNat W k2 (by omega)).mono fun e w' ⟨he, d1⟩ => ⟨he, NP.ref k1 k3 k4 k5 d1⟩

end Go.Proofs.Ytponmokiogdejaa
