import Derived.Test.YtgeefnmgejnemaaDoorUtfUnqGo
namespace Go.Proofs.YtgeefnmgejnemaaDoor
open Go.RowKit Go.Shelf Utf
open Go.Lib (encodeRune validD)
set_option linter.unusedSimpArgs false
set_option linter.unusedVariables false
namespace Utf
theorem runes_step {l : List UInt8} {k r n : Nat} (h : at1 (l.drop k) = (r, n + 1)) : runesAt l k = (k, r) :: runesAt l (k + (n + 1)) := by
  rw [runesAt_some (by rw [h]; exact Nat.succ_ne_zero n), h]
theorem unq_step {l out : List UInt8} {k r n : Nat} (h1 : ¬ (k < l.length ∧ (l.getD k 0).toNat = 34)) (hs : stepL (l.drop k) = (r, n + 1, 0)) (hk : k < l.length) : unqGo l k out = unqGo l (k + (n + 1)) (out ++ encodeRune (r : Int)) := by
  rw [unqGo_on h1 (by rw [hs]) (by rw [hs]; exact Nat.succ_ne_zero n) hk, hs]
theorem unq_stop {l out : List UInt8} {k r n e : Nat} (h1 : ¬ (k < l.length ∧ (l.getD k 0).toNat = 34)) (hs : stepL (l.drop k) = (r, n, e + 1)) : unqGo l k out = ([], k, e + 1) := by
  rw [unqGo_bad h1 (by rw [hs]; exact Nat.succ_ne_zero e), hs]
theorem q1 : quoteL [97, 9, 1, 34, 195, 169] = ([34, 97, 92, 116, 92, 117, 48, 48, 48, 49, 92, 34, 195, 169, 34], 0) := by
  have h : runesL [97, 9, 1, 34, 195, 169] = [(0, 97), (1, 9), (2, 1), (3, 34), (4, 233)] := by
    unfold runesL
    rw [runes_step (r := 97) (n := 0) (by decide), runes_step (r := 9) (n := 0) (by decide), runes_step (r := 1) (n := 0) (by decide), runes_step (r := 34) (n := 0) (by decide), runes_step (r := 233) (n := 1) (by decide), runesAt_none (by decide)]
  unfold quoteL
  rw [if_pos (by decide), h]
  decide
theorem u1 : unquoteL [34, 92, 117, 100, 56, 51, 100, 92, 117, 100, 101, 48, 48, 34, 120] 0 = ([240, 159, 152, 128], 14, 0) := by
  unfold unquoteL
  rw [if_neg (by decide), if_neg (by decide), unq_step (r := 128512) (n := 11) (by decide) (by decide) (by decide), unqGo_end (by decide) (by decide)]
  decide
theorem u2 : unquoteL [34, 92, 117, 100, 56, 51, 100, 120, 34] 0 = ([], 1, 3) := by
  unfold unquoteL
  rw [if_neg (by decide), if_neg (by decide), unq_stop (r := 0) (n := 0) (e := 2) (by decide) (by decide)]
  decide
theorem u3 : unquoteL [34, 97] 0 = ([], 2, 4) := by
  unfold unquoteL
  rw [if_neg (by decide), if_neg (by decide), unq_step (r := 97) (n := 0) (by decide) (by decide) (by decide), unq_stop (r := 0) (n := 1) (e := 3) (by decide) (by decide)]
  decide
theorem u4 : unquoteL [97] 0 = ([], 0, 4) := by
  unfold unquoteL
  rw [if_neg (by decide), if_pos (by decide)]
end Utf
theorem unq_at {l k : List UInt8} {p : Int} {e : Nat} (h : unquoteL l 0 = (k, p, e)) (hs : l.length ≤ 140737488351232) (V : World) (hT : Tabs V) :
    Calls Tryd.prog 17 #[.string ⟨l.toArray⟩, .int .i64 0] V fun x V' => x = .returned (.tuple #[.string ⟨k.toArray⟩, .int .i64 p, .int .i64 (e : Int)]) ∧ Below V.heap.size V V' := by
  have := unquote_any l 0 V hs hT
  rw [h] at this
  exact this
set_option maxRecDepth 100000 in
set_option maxHeartbeats 2000000 in
theorem known_any (w : World) (hT : Tabs w) :
    Calls Tryd.prog 11 #[] w fun e w' => e = .returned (.bool true) ∧ Below w.heap.size w w' := by
  have K1 : Hid (∀ V, Tabs V → Calls Tryd.prog 15 #[.string { data := #[97, 9, 1, 34, 195, 169] }] V fun e V' => e = .returned (.tuple #[.string { data := #[34, 97, 92, 116, 92, 117, 48, 48, 48, 49, 92, 34, 195, 169, 34] }, .int .i64 0]) ∧ Below V.heap.size V V') := fun V hV => by
    have := quote_any [97, 9, 1, 34, 195, 169] V (by decide) hV
    unfold Quoted at this
    rw [q1] at this
    exact this
  have K2 := Lib.hid (unq_at u1 (by decide))
  have K3 := Lib.hid (unq_at u2 (by decide))
  have K4 := Lib.hid (unq_at u3 (by decide))
  have K5 := Lib.hid (unq_at u4 (by decide))
  have HT := Lib.hid hT
  clear hT
  go_enter Tryd.func11, Tryd.ntmps11
  go_wp2_with (go_at_call 15; (with_reducible refine (K1.out _ HT.out).mono ?_); rintro e w1 ⟨rfl, b1⟩)
  go_wp2_with (go_at_call 17; (with_reducible refine (K2.out _ (tabs_below HT.out b1)).mono ?_); rintro e w2 ⟨rfl, b2⟩)
  have c2 := b1.trans (b2.mono b1.size)
  go_wp2_with (go_at_call 17; (with_reducible refine (K3.out _ (tabs_below HT.out c2)).mono ?_); rintro e w3 ⟨rfl, b3⟩)
  have c3 := c2.trans (b3.mono c2.size)
  go_wp2_with (go_at_call 17; (with_reducible refine (K4.out _ (tabs_below HT.out c3)).mono ?_); rintro e w4 ⟨rfl, b4⟩)
  have c4 := c3.trans (b4.mono c3.size)
  go_wp2_with (go_at_call 17; (with_reducible refine (K5.out _ (tabs_below HT.out c4)).mono ?_); rintro e w5 ⟨rfl, b5⟩)
  have c5 := c4.trans (b5.mono c4.size)
  go_ret
  exact ⟨rfl, c5⟩
end Go.Proofs.YtgeefnmgejnemaaDoor
