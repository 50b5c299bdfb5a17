import Derived.Test.YtponmokiogdejaaNetOps
import Derived.Deep.RegionHeld3
namespace Go.Proofs.Ytponmokiogdejaa
open Go.RowKit
set_option linter.unusedSimpArgs false
set_option linter.unusedVariables false

/-- An error's number, and what is so then. -/
def Errs (R : Nat → World → Prop) (e : Ending) (w' : World) : Prop := ∃ n : Nat, e = .returned (.int .i64 (n : Int)) ∧ R n w'
theorem net_row {w : World} {M : Nat → Prop} {g0 : Nat} {L : List Let} {A : Option Addr} {c : Nat} {xs : List Value} (h : NetAt w M g0 L A c xs) {k : Nat} (hk : k < L.length) :
    ∃ b B d, A = some ⟨b, 0, none⟩ ∧ M b ∧ b ≠ g0 ∧ b < w.heap.size ∧ (w.cell? ⟨b, k * 3, none⟩ = some (.int .u64 (L[k].to : Int)) ∧ w.cell? ⟨b, k * 3 + 1, none⟩ = some (.slice B L[k].fr.length d) ∧ w.cell? ⟨b, k * 3 + 2, none⟩ = some (.bool L[k].sp)) ∧ (∀ o, w.frozen? ⟨b, o, none⟩ = false) ∧
      L[k].to < 18446744073709551616 ∧ L[k].fr.length ≤ 140737488355328 ∧ L[k].fr.length ≤ d ∧ Fr w (fun g => M g ∧ some g ≠ some b ∧ g ≠ g0) B L[k].fr := by
  obtain ⟨h1, h2, h3, h4, h5, h6, h7, h8⟩ := h
  obtain ⟨g, ds, rfl, _, hg, hr, hf, A4, c4, rfl, e1, e2, e3, e4⟩ := own_parts h3 h4 k _ (List.getElem?_eq_getElem hk)
  have hm := h7 g rfl
  refine ⟨g, A4, c4, rfl, hm.1, hm.2, hg, ⟨?_, ?_, ?_⟩, fun o => ?_, e1, e2, e3, e4⟩
  · have := hr 0 _ rfl; rwa [Nat.zero_add] at this
  · have := hr 1 _ rfl; rwa [Nat.zero_add] at this
  · have := hr 2 _ rfl; rwa [Nat.zero_add] at this
  · rcases h3.2 with ⟨h0, _⟩ | ⟨g', cap, cur, hv, _, hh, _⟩
    · cases h0
    · injection hv with hv _ _
      injection hv with hv
      injection hv with hv _ _
      subst hv
      unfold World.frozen?
      rw [hh]
      simp

theorem NetAt.keep {w w' : World} {M S : Nat → Prop} {g0 : Nat} {L : List Let} {A : Option Addr} {c : Nat} {xs : List Value} (h : NetAt w M g0 L A c xs) (hs : Only S w w') (hd : ∀ k, M k → ¬ S k) : NetAt w' M g0 L A c xs := by
  obtain ⟨h1, h2, h3, h4, h5, h6, h7, h8⟩ := h
  have hb : ∀ k, M k → w'.heap[k]? = w.heap[k]? := fun k hk => hs.block k (h8 k hk) (hd k hk)
  refine ⟨(World.cell?_of_block (a := ⟨g0, 0, none⟩) (hb g0 h5)).trans h1, (World.frozen?_of_block (a := ⟨g0, 0, none⟩) (hb g0 h5)).trans h2, ⟨h3.1, ?_⟩, h4.mono fun ds x hx => hx.keep (fun _ h => h) (fun p hp => ⟨World.cell?_of_block (hb p.block hp.1), World.frozen?_of_block (hb p.block hp.1)⟩), h5, by have := hs.size; omega, h7, fun k hk => by have := hs.size; have := h8 k hk; omega⟩
  rcases h3.2 with h0 | ⟨g, cap, cur, hv, hg, hh, r⟩
  · exact .inl h0
  · refine .inr ⟨g, cap, cur, hv, hg, (hb g ?_).trans hh, r⟩
    exact (h7 g (by rw [hv]; rfl)).1
theorem NetAt.below {w w' : World} {M : Nat → Prop} {g0 : Nat} {L : List Let} {A : Option Addr} {c : Nat} {xs : List Value} (h : NetAt w M g0 L A c xs) (hb : Below w.heap.size w w') : NetAt w' M g0 L A c xs :=
  h.keep (S := fun _ => False) (Only.of_below hb) (fun _ _ hf => hf)
theorem NetO.below {w w' : World} {M : Nat → Prop} {g0 : Nat} {L : List Let} (h : NetO w M g0 L) (hb : Below w.heap.size w w') : NetO w' M g0 L := by
  obtain ⟨A, c, xs, hn⟩ := h
  exact ⟨A, c, xs, hn.below hb⟩
/-- More blocks may be a net's. -/
theorem NetO.wider {w : World} {M M' : Nat → Prop} {g0 : Nat} {L : List Let} (h : NetO w M g0 L) (hM : ∀ k, M k → M' k) (hs : ∀ k, M' k → k < w.heap.size) : NetO w M' g0 L := by
  obtain ⟨A, c, xs, h1, h2, h3, h4, h5, h6, h7, h8⟩ := h
  exact ⟨A, c, xs, h1, h2, h3, h4.mono fun ds x hx => hx.keep (fun g hg => ⟨hM g hg.1, hg.2⟩) (SameAt.refl _ _), hM _ h5, h6, fun k hk => ⟨hM _ (h7 k hk).1, (h7 k hk).2⟩, hs⟩
theorem net_wider {w w1 w' : World} {M : Nat → Prop} {g0 : Nat} {L L' : List Let} {A : Option Addr} {c : Nat} {xs : List Value} (hn : NetAt w M g0 L A c xs) (b1 : Below w.heap.size w w1) (h1 : NetO w' (Plus M w1 w') g0 L') (h2 : Only M w1 w') : NetO w' (Plus M w w') g0 L' ∧ Only M w w' := by
  have s1 := b1.size
  have s2 := h2.size
  refine ⟨h1.wider (fun k hk => ?_) (fun k hk => ?_), h2.os.trans b1.os, h2.tape.trans b1.tape, h2.output.trans b1.output, by omega, fun k hk hm => (h2.block k (by omega) hm).trans (b1.block k hk)⟩
  · rcases hk with hk | hk
    · exact .inl hk
    · exact .inr ⟨by omega, hk.2⟩
  · rcases hk with hk | hk
    · have := hn.2.2.2.2.2.2.2 k hk; omega
    · exact hk.2

@[local go_sem] def ld11 : Oper := { dst := some 11, op := Op.load 47 (Operand.tmp 10), type := 47, pos := "net.go:89", after := #[{ on := 6, ground := Ground.data }], guard := none }
@[local go_sem] def ld8 : Oper := { dst := some 8, op := Op.load 25 (Operand.tmp 7), type := 25, pos := "net.go:89", after := #[{ on := 3, ground := Ground.data }], guard := none }

/-- What is none of a net's lies where it lay. -/
theorem net_far {w w4 w5 : World} {M : Nat → Prop} {g0 n0 : Nat} {L : List Let} {A : Option Addr} {c : Nat} {xs : List Value} {o : Obj} {v : Value} (h : NetAt w M g0 L A c xs) (hn : ¬ M n0) (hn0 : n0 < w.heap.size) (b4 : Below w.heap.size w w4) (hg : (w4.alloc o).grownBy w5 (Value.slice A L.length c).ownBlock) (hv : w4.cell? ⟨n0, 0, none⟩ = some v) : w5.cell? ⟨n0, 0, none⟩ = some v := by
  have s4 := b4.size
  have k : w5.heap[n0]? = w4.heap[n0]? := (hg.block n0 (by rw [World.size_alloc]; omega) (fun e => hn (h.2.2.2.2.2.2.1 n0 e.symm).1)).trans (heap_alloc_old _ _ (by omega))
  exact (World.cell?_of_block (a := ⟨n0, 0, none⟩) k).trans hv

set_option maxRecDepth 100000 in
set_option maxHeartbeats 8000000 in
theorem double1_any (M : Nat → Prop) (g0 n0 k : Nat) (L : List Let) (A : Option Addr) (c : Nat) (xs : List Value) (b : Nat) (w : World) (hA : A = some ⟨b, 0, none⟩) (hn : NetAt w M g0 L A c xs) (hk : k < L.length) (hL : L.length ≤ 1000000) (hbx : w.cell? ⟨n0, 0, none⟩ = some (.pointer (some ⟨g0, 0, none⟩))) (hnM : ¬ M n0) :
    Calls Try.prog 41 #[.pointer (some ⟨b, k * 3, none⟩), .pointer (some ⟨n0, 0, none⟩)] w (Errs fun n w' => n = 0 ∧ NetO w' (Plus M w w') g0 (L ++ [L[k]]) ∧ Only M w w') := by
  obtain ⟨i0, hi, hz0, hz1, hz2⟩ := info_parts info_letter
  obtain ⟨b', B, d, hA', hMb, hbg, hbs, ⟨a0, a1, a2⟩, -, hto, hfr, hd, hF⟩ := net_row hn hk
  rw [hA] at hA'
  injection hA' with hA'
  injection hA' with hA' _ _
  subst hA'
  clear hA
  have HN := Lib.hid hn
  obtain ⟨q0, qf, hown, -, hMg, hg0, hob, hM⟩ := hn
  have hn0 : n0 < w.heap.size := World.block_lt_of_cell? w _ hbx
  have hng : n0 ≠ g0 := fun e => hnM (e ▸ hMg)
  have hng2 : g0 ≠ n0 := hng.symm
  obtain ⟨x, hx⟩ : ∃ x, x = L[k] := ⟨_, rfl⟩
  rw [← hx] at a0 a1 a2 hto hfr hd hF ⊢
  have HC := Lib.hid fun W (hW : Below w.heap.size w W) => copied_any B d x W ((hF.at (B := w.heap.size) fun g hg => hM g hg.1).arg hW) hfr
  clear hob hM hF hx
  go_enter Try.func41, Try.ntmps41
  go_wp2_with fail
  rw [show ({ dst := some 8, op := Op.load 25 (Operand.tmp 7), type := 25, pos := "net.go:89", after := #[{ on := 3, ground := Ground.data }], guard := none } : Oper) = ld8 from rfl,
    show ({ dst := some 11, op := Op.load 47 (Operand.tmp 10), type := 47, pos := "net.go:89", after := #[{ on := 6, ground := Ground.data }], guard := none } : Oper) = ld11 from rfl]
  go_region_held3 (fun w' => w'.cell? ⟨n0, 0, none⟩ = some (.pointer (some ⟨g0, 0, none⟩)))
    (go_keep)
    (first
      | (go_at_call 33; (with_reducible refine (HC.out _ (Below.refl _ _).drew).mono ?_); rintro e w4 ⟨A4, c4, rfl, hx, hc4, b4⟩; have b5 : Below w.heap.size w w4 := ⟨b4.os, b4.tape, b4.output, b4.size, b4.block⟩; have x0 : w4.cell? ⟨g0, 0, none⟩ = some (.slice A L.length c) := (b5.cell (p := ⟨g0, 0, none⟩) hg0).trans q0; have hbx := (b5.cell (p := ⟨n0, 0, none⟩) hn0).trans hbx; have a0 := (b5.cell (p := ⟨b, k * 3, none⟩) hbs).trans a0; have a1 := (b5.cell (p := ⟨b, k * 3 + 1, none⟩) hbs).trans a1; have a2 := (b5.cell (p := ⟨b, k * 3 + 2, none⟩) hbs).trans a2; have xa := cell_alloc_d (.cells #[.int .u64 (x.to : Int), .slice A4 x.fr.length c4, .bool x.sp] 47) x0; have hown4a := (own_below hown b5 (Nat.le_refl _)).alloc (.cells #[.int .u64 (x.to : Int), .slice A4 x.fr.length c4, .bool x.sp] 47); have hsz4 := b5.size; have HX := Lib.hid (And.intro hx (And.intro hc4 b5)); clear hx hc4 b4 b5)
      | (refine step_append_from _ (by rfl) (.tmp 8) (.tmp 13) 25 (by rfl) 0 47 i0 _ 3 40 Try.underlying25 hi hz0 hz1 hz2 rfl (by decide) _ L.length xs (by simp [Act.eval, Act.put]) hown4a (w4.heap.size + 1) (some ⟨w4.heap.size, 0, none⟩) 1 1 [.int .u64 (x.to : Int), .slice A4 x.fr.length c4, .bool x.sp] (by simp [Act.eval, Act.put]) (At.new w4 [.int .u64 (x.to : Int), .slice A4 x.fr.length c4, .bool x.sp] _ 3 1 rfl) (one3 _ _ _ _ _) (by unfold maxLen; omega) (by omega) (Nat.zero_le _) ?_; intro v' w5 hown5 hg hat; obtain ⟨A', c', rfl, _, _, _⟩ := own_slice hown5; obtain ⟨x5, xf⟩ := net_cell HN.out HX.out.2.2 hg; have hbx := net_far HN.out hnM hn0 HX.out.2.2 hg hbx; have HG := Lib.hid (And.intro hg hat); clear hg hat))
  all_goals
    have hfin := net_append HN.out HX.out.2.2 HX.out.1 hto hfr HX.out.2.1 hown5 HG.out.1 HG.out.2
    clear hown5 hown4a HG HX x5 xf xa x0 hown q0 qf a0 a1 a2 hbx
    go_wp2
    go_ret
    exact ⟨0, rfl, rfl, hfin⟩
end Go.Proofs.Ytponmokiogdejaa
