import Derived.Test.YtponmokiogdejaaNetNil
namespace Go.Proofs.Ytponmokiogdejaa
open Go.RowKit
set_option linter.unusedSimpArgs false
set_option linter.unusedVariables false

/-- The three cells of a letter whose bytes may be written. -/
def LetW (w : World) (S : Nat → Prop) (ds : List Value) (x : Let) : Prop :=
  LetO w S ds x ∧ ∃ A c, ds = [.int .u64 (x.to : Int), .slice A x.fr.length c, .bool x.sp] ∧ (0 < x.fr.length → ∃ g o, A = some ⟨g, o, none⟩ ∧ S g ∧ ∀ j, j < x.fr.length → (∃ u : Int, w.cell? ⟨g, o + j, none⟩ = some (.int .u8 u)) ∧ w.frozen? ⟨g, o + j, none⟩ = false)
theorem LetW.keep {w w' : World} {S S' : Nat → Prop} (hS : ∀ g, S g → S' g) (hk : SameAt S w w') {ds : List Value} {x : Let} (h : LetW w S ds x) : LetW w' S' ds x := by
  obtain ⟨h1, A, c, e, h2⟩ := h
  refine ⟨h1.keep hS hk, A, c, e, fun hl => ?_⟩
  obtain ⟨g, o, e, hg, hc⟩ := h2 hl
  refine ⟨g, o, e, hS g hg, fun j hj => ?_⟩
  obtain ⟨⟨u, hu⟩, hf⟩ := hc j hj
  exact ⟨⟨u, (hk ⟨g, o + j, none⟩ hg).1.trans hu⟩, (hk ⟨g, o + j, none⟩ hg).2.trans hf⟩
/-- Letters of their own, in a row of their own. -/
def AllO (w : World) (L : List Let) (e : Ending) (w' : World) : Prop := ∃ v xs, e = .returned v ∧ w'.ownsRow w.heap.size 47 3 v L.length xs ∧ RowsO 3 (LetW w' (Span w.heap.size w'.heap.size v.ownBlock)) xs L ∧ Below w.heap.size w w'

set_option maxRecDepth 100000 in
set_option maxHeartbeats 8000000 in
theorem all_any (M : Nat → Prop) (g0 : Nat) (L : List Let) (w : World) (h : NetO w M g0 L) (hL : L.length ≤ 1000000) :
    Calls Try.prog 13 #[.pointer (some ⟨g0, 0, none⟩)] w (AllO w L) := by
  obtain ⟨i0, hi, hz0, hz1, hz2⟩ := info_parts info_letter
  obtain ⟨A, c, xs0, hn⟩ := h
  have hg0 := hn.2.2.2.2.2.1
  have hM := hn.2.2.2.2.2.2.2
  have HQ := Lib.hid fun W (hW : Below w.heap.size w W) => (hW.cell (p := ⟨g0, 0, none⟩) hg0).trans hn.1
  have C1 := Lib.hid fun W (hW : Below w.heap.size w W) => lenAt_any W (HQ.out W hW)
  have HN := Lib.hid hn
  clear hn
  go_enter Try.func13, Try.ntmps13
  go_wp2_with fail
  ((with_reducible refine (C1.out _ (Below.refl _ _)).mono ?_); rintro e w0 ⟨rfl, b0⟩)
  clear C1
  go_wp2
  go_loopw [3, 7] (fun o i wr => ∃ (j : Nat) (xs : List Value), j ≤ L.length ∧ i = .int .i64 j ∧ wr.ownsRow w.heap.size 47 3 o j xs ∧ Hid (RowsO 3 (LetW wr (Span w.heap.size wr.heap.size o.ownBlock)) xs (L.take j)) ∧ Below w.heap.size w wr) (fun _ i _ => L.length - (intOf i).toNat)
  case atStart => exact ⟨0, [], Nat.zero_le _, rfl, World.ownsRow_nil _ _ _ _, RowsO.nil _ _, b0⟩
  case round =>
    obtain ⟨j, xs, hj, rfl, hown, HR, hb⟩ := hrel
    clear b0
    by_cases hlt : j < L.length
    · obtain ⟨b, B, d, hA, hMb, hbg, hbs, ⟨a0, a1, a2⟩, -, hto, hfr, hd, hF⟩ := net_row HN.out hlt
      have HT := Lib.hid (show L.take (j + 1) = L.take j ++ [L[j]] by rw [List.take_succ_eq_append_getElem hlt])
      obtain ⟨x, hx⟩ : ∃ x, x = L[j] := ⟨_, rfl⟩
      rw [← hx] at a0 a1 a2 hto hfr hd hF HT
      have hI := copied_any B d x wr ((hF.at (B := w.heap.size) fun g hg => hM g hg.1).arg hb) hfr
      have q0 := HQ.out wr hb
      have a0 := (hb.cell (p := ⟨b, j * 3, none⟩) hbs).trans a0
      have a1 := (hb.cell (p := ⟨b, j * 3 + 1, none⟩) hbs).trans a1
      have a2 := (hb.cell (p := ⟨b, j * 3 + 2, none⟩) hbs).trans a2
      subst hA
      have HI := Lib.hid hI
      clear hI hF hx
      go_wp2_with fail
      ((with_reducible refine HI.out.mono ?_); rintro e w4 ⟨A4, c4, rfl, hx4, hc4, b4⟩)
      have hown4 := own_below hown b4 (Nat.le_refl _)
      have hown4a := hown4.alloc (.cells #[.int .u64 (x.to : Int), .slice A4 x.fr.length c4, .bool x.sp] 47)
      have hsz := b4.size
      have hsz0 := hb.size
      have hV : LetW w4 (Span wr.heap.size w4.heap.size none) [.int .u64 (x.to : Int), .slice A4 x.fr.length c4, .bool x.sp] x := ⟨⟨A4, c4, rfl, hto, hfr, hc4, hx4.fr⟩, A4, c4, rfl, fun hl => by
        obtain ⟨g, o, e, hb, hg, hc⟩ := hx4 hl
        exact ⟨g, o, e, ⟨hb, hg, by simp⟩, fun j hj => ⟨⟨_, (hc j hj).1⟩, (hc j hj).2⟩⟩⟩
      have HV := Lib.hid hV
      have H1 := Lib.hid (one3 x.to A4 x.fr.length c4 x.sp)
      clear a0 a1 a2 q0 HI hV hx4 hc4
      go_wp2_with (at_builtin; refine wpList_append_from _ rfl _ _ 25 rfl w.heap.size 47 i0 _ 3 40 Try.underlying25 hi hz0 hz1 hz2 rfl (by decide) _ j xs rfl hown4a (w4.heap.size + 1) (some ⟨w4.heap.size, 0, none⟩) 1 1 [.int .u64 (x.to : Int), .slice A4 x.fr.length c4, .bool x.sp] rfl (At.new w4 _ _ 3 1 rfl) H1.out (by unfold maxLen; omega) (by omega) (by simp; omega) ?_; intro v' w5 hown5 hg hat)
      have hb5 : Below w.heap.size w w5 := ((hb.trans (b4.mono hsz0)).alloc (by omega) _).trans (grown_below hown4a hg (by simp; omega))
      have HR5 := Lib.hid (rows_step (P := fun w S ds x => LetW w S ds x) (@fun _ _ _ _ hS hk _ _ h => LetW.keep hS hk h) HR.out hown.lt b4 (Nat.le_refl _) hb.size HV.out rfl hg hat)
      rw [← HT.out] at HR5
      clear hg hat hown hown4 hown4a HR HV b4 hsz hsz0 hb
      go_roundw
      case rel => exact ⟨j + 1, _, by omega, by go_num, hown5, HR5, hb5⟩
      case measure => simp [intOf]; omega
    · have hj2 : L.take j = L := List.take_of_length_le (by omega)
      have hj3 : j = L.length := by omega
      rw [hj2] at HR
      subst hj3
      clear hj2
      have HO := Lib.hid hown
      clear hown
      go_wp2
      go_ret
      exact ⟨_, xs, rfl, HO.out, HR.out, hb⟩
end Go.Proofs.Ytponmokiogdejaa
