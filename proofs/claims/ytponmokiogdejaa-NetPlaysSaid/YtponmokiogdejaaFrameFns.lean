import Derived.Test.YtponmokiogdejaaFrameSpec
import Derived.Handy
namespace Go.Proofs.Ytponmokiogdejaa
open Go.RowKit Crc

/-- Bytes in memory of the call's own, from block B on, that may be written. -/
def Own (w : World) (B : Nat) (A : Option Addr) (l : List UInt8) : Prop :=
  0 < l.length → ∃ g o, A = some ⟨g, o, none⟩ ∧ B ≤ g ∧ g < w.heap.size ∧ ∀ j, j < l.length → w.cell? ⟨g, o + j, none⟩ = some (.int .u8 ((l.getD j 0).toNat : Int)) ∧ w.frozen? ⟨g, o + j, none⟩ = false
theorem Own.nil (w : World) (B : Nat) (A : Option Addr) : Own w B A [] := fun h => absurd h (by simp)
theorem Own.at {w : World} {B : Nat} {A : Option Addr} {l : List UInt8} (h : Own w B A l) : At w w.heap.size 1 A l.length (l.map u8v) := by
  refine ⟨by simp, fun hn => ?_⟩
  obtain ⟨g, o, e, _, hl, hc⟩ := h hn
  refine ⟨g, o, e, hl, fun j u hu => ?_⟩
  have hj : j < l.length := by have := (List.getElem?_eq_some_iff.1 hu).1; simpa using this
  rw [u8v_map_get l j hj] at hu
  injection hu with hu
  rw [(hc j hj).1, ← hu]
  simp [List.getD, hj]
theorem Own.keep {w W : World} {B : Nat} {A : Option Addr} {l : List UInt8} (h : Own w B A l) (hs : w.heap.size ≤ W.heap.size) (hk : ∀ g o, B ≤ g → g < w.heap.size → W.cell? ⟨g, o, none⟩ = w.cell? ⟨g, o, none⟩ ∧ W.frozen? ⟨g, o, none⟩ = w.frozen? ⟨g, o, none⟩) : Own W B A l := fun hn => by
  obtain ⟨g, o, e, hb, hl, hc⟩ := h hn
  exact ⟨g, o, e, hb, by omega, fun j hj => ⟨(hk g _ hb hl).1.trans (hc j hj).1, (hk g _ hb hl).2.trans (hc j hj).2⟩⟩
theorem Own.below {w W : World} {B : Nat} {A : Option Addr} {l : List UInt8} (h : Own w B A l) (hb : Below w.heap.size w W) : Own W B A l := h.keep hb.size fun g o _ hl => ⟨hb.cell (p := ⟨g, o, none⟩) hl, hb.frozen (p := ⟨g, o, none⟩) hl⟩
theorem Own.base {w : World} {B B' : Nat} {A : Option Addr} {l : List UInt8} (h : Own w B A l) (hb : B' ≤ B) : Own w B' A l := fun hn => by
  obtain ⟨g, o, e, hb', hl, hc⟩ := h hn
  exact ⟨g, o, e, by omega, hl, hc⟩
theorem own_of_row {w : World} {base c : Nat} {A : Option Addr} {l : List UInt8} (h : w.ownsRow base 5 1 (.slice A l.length c) l.length (l.map u8v)) : Own w base A l := fun hn => by
  obtain ⟨g, cap, hv, hg, hl⟩ := h.form (by omega)
  injection hv with e1 e2 e3
  subst e1 e3
  refine ⟨g, 0, rfl, hg, hl, fun j hj => ?_⟩
  have hc := h.cellAt j (by omega)
  rw [u8v_map_get l j hj] at hc
  have hf := h.frozenAt j
  rw [Nat.zero_add]
  exact ⟨by rw [hc]; simp [List.getD, hj], hf⟩
/-- The call answers bytes of its own, and an error's number. -/
def AnsO (w : World) (p : List UInt8 × Nat) (e : Ending) (w' : World) : Prop :=
  ∃ A c, e = .returned (.tuple #[.slice A p.1.length c, .int .i64 (p.2 : Nat)]) ∧ Own w' w.heap.size A p.1 ∧ p.1.length ≤ c ∧ Below w.heap.size w w'
theorem ansO_none (w w' : World) (n : Nat) (h : Below w.heap.size w w') : AnsO w ([], n) (.returned (.tuple #[.slice none 0 0, .int .i64 (n : Nat)])) w' := ⟨none, 0, rfl, Own.nil _ _ _, Nat.le_refl _, h⟩
/-- The call answers bytes, read as a slice, and an error's number. -/
def Ans2 (w : World) (p : List UInt8 × Nat) (e : Ending) (w' : World) : Prop :=
  ∃ A c, e = .returned (.tuple #[.slice A p.1.length c, .int .i64 (p.2 : Nat)]) ∧ At w' w'.heap.size 1 A p.1.length (p.1.map u8v) ∧ p.1.length ≤ c ∧ Below w.heap.size w w'
theorem AnsO.ans {w : World} {p : List UInt8 × Nat} {e : Ending} {w' : World} (h : AnsO w p e w') : Ans2 w p e w' := by
  obtain ⟨A, c, he, ho, hc, hb⟩ := h
  exact ⟨A, c, he, ho.at, hc, hb⟩
theorem ans2_none (w w' : World) (n : Nat) (h : Below w.heap.size w w') : Ans2 w ([], n) (.returned (.tuple #[.slice none 0 0, .int .i64 (n : Nat)])) w' := ⟨none, 0, rfl, At.nil _ _ _ _, Nat.le_refl _, h⟩

/-- A new block, all of it told. -/
theorem ownsRow_full {base : Nat} (w : World) (xs : List Value) (e : TypeId) (hb : base ≤ w.heap.size) (hm : xs.length ≤ maxLen) :
    (w.alloc (.cells xs.toArray e)).ownsRow base e 1 (.slice (some ⟨w.heap.size, 0, none⟩) xs.length xs.length) xs.length xs :=
  ⟨by simp, .inr ⟨w.heap.size, xs.length, xs.toArray, rfl, hb, heap_alloc_new w _, Nat.le_refl _, hm, by simp, by simp⟩⟩
/-- One byte, and others behind it, appended. -/
theorem ownsRow_one {base : Nat} (w : World) (x : UInt8) (hb : base ≤ w.heap.size) :
    (w.alloc (.cells #[.int .u8 (x.toNat : Int)] 5)).ownsRow base 5 1 (.slice (some ⟨w.heap.size, 0, none⟩) 1 1) 1 [.int .u8 (x.toNat : Int)] := ownsRow_full w [_] _ hb (by simp [maxLen])

set_option maxHeartbeats 1000000 in
theorem sealed_any (k : UInt8) (A : Option Addr) (c B : Nat) (l : List UInt8) (w : World) (h1 : At w B 1 A l.length (l.map u8v)) (hB : B ≤ w.heap.size) (hm : l.length + 5 ≤ 140737488355328) :
    Calls Try.prog 40 #[.agg #[u8v k, .slice A l.length c]] w (MadeB w (seal_ (k :: l))) := by
  obtain ⟨i0, hi, hz0, hz1, hz2⟩ := info_parts info_u8
  unfold u8v
  have hown0 := ownsRow_one (base := w.heap.size) (w.alloc (.cells #[.int .u8 (k.toNat : Int), .slice A l.length c] 77)) k (by simp)
  have hA2 : At ((w.alloc (.cells #[.int .u8 (k.toNat : Int), .slice A l.length c] 77)).alloc (.cells #[.int .u8 (k.toNat : Int)] 5)) B 1 A l.length (l.map u8v) := (h1.alloc hB _).alloc (by simp; omega) _
  have hb0 : w.heap.size ≤ ((w.alloc (.cells #[.int .u8 (k.toNat : Int), .slice A l.length c] 77)).alloc (.cells #[.int .u8 (k.toNat : Int)] 5)).heap.size := by simp; omega
  simp only [World.size_alloc] at hown0
  have H0 := Lib.hid hown0
  have H2 := Lib.hid hA2
  have H3 := Lib.hid hb0
  clear hown0 hA2 hb0
  go_enter Try.func40, Try.ntmps40
  go_wp2_with (at_builtin; (refine wpList_append_from _ rfl _ _ 34 rfl w.heap.size 5 i0 (.int .u8 0) 1 1 Try.underlying34 hi hz0 hz1 hz2 rfl (by decide) _ 1 _ rfl H0.out B A l.length c (l.map u8v) rfl H2.out (one_u8 l) (by unfold maxLen; omega) (by omega) H3.out ?_); intro v1 w1 hown hg _)
  have hb : Below w.heap.size w w1 := (((Below.refl _ w).alloc (Nat.le_refl _) _).alloc (by simp) _).trans (grown_below H0.out hg H3.out)
  have hown2 : w1.ownsRow w.heap.size 5 1 v1 (k :: l).length ((k :: l).map u8v) := by rw [List.length_cons, Nat.add_comm]; exact hown
  obtain ⟨A1, c1, rfl, hc1, _, hat⟩ := own_slice hown2
  have c1 := seal_any A1 c1 w1.heap.size (k :: l) w1 hat (Nat.le_refl _) (by rw [List.length_cons]; omega)
  clear hown hown2 hg hat
  go_wp2_with fail
  refine c1.mono ?_
  rintro e w2 ⟨v2, rfl, hown3, hb2⟩
  go_wp2
  go_ret
  exact ⟨v2, rfl, own_base hown3 hb.size, bthen hb hb2⟩

set_option maxHeartbeats 1000000 in
theorem frame_zero (A : Option Addr) (c : Nat) (l : List UInt8) (w : World) :
    Calls Try.prog 16 #[.int .u8 0, .slice A l.length c] w (AnsO w (frameL 0 l, frameE 0)) := by
  have HE : Hid (∀ w', Below w.heap.size w w' → AnsO w (frameL 0 l, frameE 0) (.returned (.tuple #[.slice none 0 0, .int .i64 2])) w') := fun w' h => ansO_none w w' 2 h
  go_enter Try.func16, Try.ntmps16
  go_wp2
  go_rounds 1
  go_ret2
  refine HE.out _ ?_
  go_grown

set_option maxHeartbeats 1000000 in
theorem frame_other (k : UInt8) (A : Option Addr) (c B : Nat) (l : List UInt8) (w : World) (h1 : At w B 1 A l.length (l.map u8v)) (hB : B ≤ w.heap.size) (hm : l.length + 5 ≤ 140737488355328) (hk : k ≠ 0) :
    Calls Try.prog 16 #[u8v k, .slice A l.length c] w (AnsO w (frameL k l, frameE k)) := by
  have hk0 : ((k.toNat : Int) == 0) = false := by
    rw [beq_eq_false_iff_ne]
    intro h
    exact hk (UInt8.toNat_inj.1 (by rw [UInt8.toNat_zero]; omega))
  have HE : Hid (∀ e W w', Below w.heap.size w W → MadeB W (seal_ (k :: l)) e w' → ∃ v, e = .returned v ∧ AnsO w (frameL k l, frameE k) (.returned (.tuple #[v, .int .i64 0])) w') := fun e W w' hW ⟨v, he, hown, hb⟩ => by
    have e1 : frameL k l = seal_ (k :: l) := by unfold frameL; rw [if_neg hk]
    have e2 : frameE k = 0 := by unfold frameE; rw [if_neg hk]
    rw [e1, e2]
    obtain ⟨A, c, rfl, hc, _, _⟩ := own_slice hown
    exact ⟨_, he, A, c, rfl, own_of_row (own_base hown hW.size), hc, bthen hW hb⟩
  clear hk
  unfold u8v
  go_enter Try.func16, Try.ntmps16
  go_wp2
  refine wp_loop_rounds 2 ?_
  rw [rounds_succ]
  go_wp2
  rw [rounds_succ]
  go_wp2_with fail
  refine (sealed_any k A c B l _ ?_ (by simp; omega) hm).mono ?_
  · exact (((h1.alloc hB _).alloc (by simp; omega) _).alloc (by simp; omega) _).alloc (by simp; omega) _
  rintro e w2 hM
  obtain ⟨v, rfl, hA⟩ := HE.out e _ w2 (by go_grown) hM
  go_wp2
  go_ret2
  exact hA
end Go.Proofs.Ytponmokiogdejaa
