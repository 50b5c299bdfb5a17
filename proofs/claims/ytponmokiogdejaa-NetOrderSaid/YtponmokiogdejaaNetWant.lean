/- A net that was made in a walk, beside a row of numbers that is made there, too: to whom the letters go. -/
import Derived.Test.YtponmokiogdejaaNetOut
import Derived.Test.YtponmokiogdejaaNetAll
import Derived.Test.YtponmokiogdejaaNetKnown
import Derived.Test.YtponmokiogdejaaIntArgs
namespace Go.Proofs.Ytponmokiogdejaa
open Go.RowKit
set_option linter.unusedSimpArgs false
set_option linter.unusedVariables false

def tosV (T : List Let) : List Value := T.map fun x => .int .u64 (x.to : Int)
theorem own_only {w W W' : World} {M : Nat → Prop} {base size n : Nat} {e : TypeId} {v : Value} {xs : List Value} (h : W.ownsRow base e size v n xs) (d : Only M W W') (hv : ∀ k, v.ownBlock = some k → ¬ M k) : W'.ownsRow base e size v n xs := by
  refine ⟨h.1, ?_⟩
  rcases h.2 with h0 | ⟨g, cap, cur, hv', hg, hh, r⟩
  · exact .inl h0
  · exact .inr ⟨g, cap, cur, hv', hg, (d.block g (Array.getElem?_eq_some_iff.1 hh).1 (hv g (by rw [hv']; rfl))).trans hh, r⟩
/-- The net has the letters L, the row v those of T, by whom they go to. -/
def Wn (w : World) (g0 : Nat) (L : List Let) (v : Value) (T : List Let) (W : World) : Prop :=
  ∃ M : Nat → Prop, NetO W M g0 L ∧ Below w.heap.size w W ∧ (∀ k, M k → w.heap.size ≤ k) ∧ W.ownsRow w.heap.size 33 1 v T.length (tosV T) ∧ ∀ k, v.ownBlock = some k → ¬ M k
section
variable {w W W' : World} {g0 : Nat} {L T : List Let} {v : Value}
theorem Wn.bel (h : Wn w g0 L v T W) : Below w.heap.size w W := h.choose_spec.2.1
theorem Wn.own (h : Wn w g0 L v T W) : W.ownsRow w.heap.size 33 1 v T.length (tosV T) := h.choose_spec.2.2.2.1
theorem Wn.then (h : Wn w g0 L v T W) (hb : Below W.heap.size W W') : Wn w g0 L v T W' := by
  obtain ⟨M, h1, h2, h3, h4, h5⟩ := h
  exact ⟨M, h1.below hb, h2.trans (hb.mono h2.size), h3, own_below h4 hb (Nat.le_refl _), h5⟩
theorem Wn.did {M : Nat → Prop} {L' : List Let} (h2 : Below w.heap.size w W) (h3 : ∀ k, M k → w.heap.size ≤ k) (h4 : W.ownsRow w.heap.size 33 1 v T.length (tosV T)) (h5 : ∀ k, v.ownBlock = some k → ¬ M k)
    (d1 : NetO W' (Plus M W W') g0 L') (d2 : Only M W W') : Wn w g0 L' v T W' := by
  have s := h2.size
  refine ⟨Plus M W W', d1, h2.trans (d2.below (by omega) h3), fun k hk => ?_, own_only (w := w) h4 d2 h5, fun k hk hp => ?_⟩
  · rcases hk with hk | hk
    · exact h3 k hk
    · omega
  · rcases hp with hp | hp
    · exact h5 k hk hp
    · have := (h4.lt k hk).2; omega
theorem Wn.want {v' : Value} {T' : List Let} (h : Wn w g0 L v T W) (hg : W.grownBy W' v.ownBlock) (ho : W'.ownsRow w.heap.size 33 1 v' T'.length (tosV T')) (hat : v'.ownBlock = v.ownBlock ∨ v'.ownBlock = some W.heap.size) : Wn w g0 L v' T' W' := by
  obtain ⟨M, h1, h2, h3, h4, h5⟩ := h
  have hM : ∀ k, M k → k < W.heap.size := fun k hk => by obtain ⟨A, c, xs, h⟩ := h1; exact h.2.2.2.2.2.2.2 k hk
  refine ⟨M, h1.keep (S := fun k => some k = v.ownBlock) ⟨hg.os, hg.tape, hg.output, hg.size, fun k hk hn => hg.block k hk hn⟩ (fun k hk e => h5 k e.symm hk), h2.trans (grown_below h4 hg h2.size), h3, ho, fun k hk hm => ?_⟩
  rcases hat with e | e
  · rw [e] at hk; exact h5 k hk hm
  · rw [e] at hk; injection hk with hk; have := hM k hm; omega
theorem Wn.fresh {v' : Value} {T' : List Let} (h : Wn w g0 L v T W) (hb : Below W.heap.size W W') (ho : W'.ownsRow W.heap.size 33 1 v' T'.length (tosV T')) : Wn w g0 L v' T' W' := by
  obtain ⟨M, h1, h2, h3, h4, h5⟩ := h
  have hM : ∀ k, M k → k < W.heap.size := fun k hk => by obtain ⟨A, c, xs, h⟩ := h1; exact h.2.2.2.2.2.2.2 k hk
  exact ⟨M, h1.below hb, h2.trans (hb.mono h2.size), h3, own_base ho h2.size, fun k hk hm => by have := (ho.lt k hk).1; have := hM k hm; omega⟩
end
def DidWn (w : World) (g0 : Nat) (L : List Let) (v : Value) (T : List Let) (n : Nat) (e : Ending) (w' : World) : Prop := e = .returned (.int .i64 (n : Int)) ∧ Wn w g0 L v T w'
theorem send_wn {w W : World} {g0 : Nat} {L T : List Let} {v : Value} (h : Wn w g0 L v T W) (tw : Nat) (l : List UInt8) (B : Option Addr) (d : Nat) (hL : L.length ≤ 1000000) (h1 : At W W.heap.size 1 B l.length (l.map u8v)) (hm : l.length ≤ 140737488355328) (hto : tw < 18446744073709551616) :
    Calls Try.prog 14 #[.pointer (some ⟨g0, 0, none⟩), .int .u64 (tw : Int), .slice B l.length d] W (DidWn w g0 (L ++ [⟨tw, l, false⟩]) v T 0) := by
  obtain ⟨M, k1, h2, h3, h4, h5⟩ := h
  exact (send_any M g0 L tw l B d W k1 hL h1 hm hto).mono fun e w' ⟨he, d1, d2⟩ => ⟨he, Wn.did h2 h3 h4 h5 d1 d2⟩
theorem drop_wn {w W : World} {g0 : Nat} {L T : List Let} {v : Value} (h : Wn w g0 L v T W) (k : Nat) (hk : k < L.length) (hL : L.length ≤ 1000000) :
    Calls Try.prog 15 #[.pointer (some ⟨g0, 0, none⟩), .int .i64 (k : Int)] W (DidWn w g0 (L.eraseIdx k) v T 0) := by
  obtain ⟨M, k1, h2, h3, h4, h5⟩ := h
  exact (drop_in M g0 k L W k1 hk hL).mono fun e w' ⟨he, d1, d2⟩ => ⟨he, Wn.did h2 h3 h4 h5 d1 d2⟩
theorem dropOut_wn {w W : World} {g0 : Nat} {L T : List Let} {v : Value} (h : Wn w g0 L v T W) (i : Int) (hi : i < 0 ∨ (L.length : Int) ≤ i) :
    Calls Try.prog 15 #[.pointer (some ⟨g0, 0, none⟩), .int .i64 i] W (DidWn w g0 L v T 17) := by
  obtain ⟨A, c, xs, hn⟩ := h.choose_spec.1
  exact (dropOut_any i W hn.1 hi).mono fun e w' ⟨he, hb⟩ => ⟨he, h.then hb⟩

/-- One byte each, and the bytes rise. -/
def OrdL (m : Nat) (L : List Let) : Prop := L.Pairwise (fun a b => (a.fr.getD 0 0).toNat < (b.fr.getD 0 0).toNat) ∧ ∀ x ∈ L, x.fr.length = 1 ∧ (x.fr.getD 0 0).toNat < m
theorem OrdL.snoc {m : Nat} {L : List Let} (h : OrdL m L) (tw : Nat) (hm : m < 256) : OrdL (m + 1) (L ++ [⟨tw, [UInt8.ofNat m], false⟩]) := by
  have e : (UInt8.ofNat m).toNat = m := by rw [UInt8.toNat_ofNat']; omega
  refine ⟨List.pairwise_append.2 ⟨h.1, List.pairwise_singleton _ _, fun a ha b hb => ?_⟩, fun x hx => ?_⟩
  · rw [List.mem_singleton] at hb
    subst hb
    have := (h.2 a ha).2
    show _ < (UInt8.ofNat m).toNat
    omega
  · rw [List.mem_append, List.mem_singleton] at hx
    rcases hx with hx | rfl
    · have := h.2 x hx; omega
    · exact ⟨rfl, by show (UInt8.ofNat m).toNat < _; omega⟩
theorem OrdL.erase {m : Nat} {L : List Let} (h : OrdL m L) (k : Nat) : OrdL m (L.eraseIdx k) :=
  ⟨h.1.sublist (List.eraseIdx_sublist _ _), fun x hx => h.2 x ((List.eraseIdx_sublist _ _).subset hx)⟩
theorem OrdL.lt {m : Nat} {L : List Let} (h : OrdL m L) {j : Nat} (hj : j + 1 < L.length) : ((L[j]'(by omega)).fr.getD 0 0).toNat < (L[j + 1].fr.getD 0 0).toNat :=
  List.pairwise_iff_getElem.1 h.1 j (j + 1) (by omega) hj (by omega)
theorem tosV_snoc (T : List Let) (x : Let) : tosV (T ++ [x]) = tosV T ++ [.int .u64 (x.to : Int)] := by simp [tosV]
theorem tosV_len (T : List Let) : (tosV T).length = T.length := by simp [tosV]
theorem tosV_erase (T : List Let) (k : Nat) : tosV (T.eraseIdx k) = (tosV T).take k ++ (tosV T).drop (k + 1) := by
  unfold tosV
  rw [List.eraseIdx_eq_take_drop_succ]
  simp [List.map_take, List.map_drop]
theorem one_tos (T : List Let) : ∀ u ∈ tosV T, u.oneCell' = true := by
  intro u hu
  obtain ⟨x, _, rfl⟩ := List.mem_map.1 hu
  rfl
theorem info_u64 : (Try.prog.info? 33).map (fun i => (i.zero, i.size, i.bytes)) = some (some (.int .u64 0), 1, 8) := by kernel_rfl
end Go.Proofs.Ytponmokiogdejaa
