import Derived.Test.YtponmokiogdejaaNetRefSpoil
namespace Go.Proofs.Ytponmokiogdejaa
open Go.RowKit
set_option linter.unusedSimpArgs false
set_option linter.unusedVariables false

/-- Letters in a row. -/
def LetsAt (w : World) (A : Option Addr) (c : Nat) (xs : List Value) (L : List Let) : Prop := At w w.heap.size 3 A L.length xs ∧ RowsO 3 (LetO w fun g => g < w.heap.size) xs L
theorem LetsAt.then {w w' : World} {A : Option Addr} {c : Nat} {xs : List Value} {L : List Let} (h : LetsAt w A c xs L) (hb : Below w.heap.size w w') : LetsAt w' A c xs L :=
  ⟨h.1.then hb, h.2.mono fun ds x hx => hx.keep (fun g hg => Nat.lt_of_lt_of_le hg hb.size) (SameAt.below hb fun _ h => h)⟩
theorem LetsAt.row {w : World} {A : Option Addr} {c : Nat} {xs : List Value} {L : List Let} (h : LetsAt w A c xs L) {k : Nat} (hk : k < L.length) :
    ∃ b o B d, A = some ⟨b, o, none⟩ ∧ b < w.heap.size ∧ (w.cell? ⟨b, o + k * 3, none⟩ = some (.int .u64 (L[k].to : Int)) ∧ w.cell? ⟨b, o + k * 3 + 1, none⟩ = some (.slice B L[k].fr.length d) ∧ w.cell? ⟨b, o + k * 3 + 2, none⟩ = some (.bool L[k].sp)) ∧
      L[k].to < 18446744073709551616 ∧ L[k].fr.length ≤ 140737488355328 ∧ L[k].fr.length ≤ d ∧ At w w.heap.size 1 B L[k].fr.length (L[k].fr.map u8v) := by
  obtain ⟨b, o, e, hb, hc⟩ := h.1.2 (by omega)
  obtain ⟨B, d, e0, e1, e2, e3, e4⟩ := h.2.2 k _ (List.getElem?_eq_getElem hk)
  have hg : ∀ i u, ([.int .u64 (L[k].to : Int), .slice B L[k].fr.length d, .bool L[k].sp] : List Value)[i]? = some u → w.cell? ⟨b, o + k * 3 + i, none⟩ = some u := fun i u hu => by
    rw [← e0, List.getElem?_take] at hu
    split at hu
    · rw [List.getElem?_drop] at hu
      have := hc (k * 3 + i) u hu
      rwa [← Nat.add_assoc] at this
    · cases hu
  exact ⟨b, o, B, d, e, hb, ⟨hg 0 _ rfl, hg 1 _ rfl, hg 2 _ rfl⟩, e1, e2, e3, e4.at fun _ h => h⟩
theorem RefAt.lets {w : World} {S : Nat → Prop} {r0 : Nat} {L : List Let} {A : Option Addr} {c : Nat} {xs : List Value} (h : RefAt w S r0 L A c xs) : LetsAt w A c xs L :=
  ⟨h.at, h.2.2.2.1.mono fun ds x hx => hx.keep h.2.2.2.2.2.2.2 (SameAt.refl _ _)⟩
theorem lets_all {w : World} {lo : Nat} {A : Option Addr} {c : Nat} {xs : List Value} {L : List Let} (hown : w.ownsRow lo 47 3 (.slice A L.length c) L.length xs) (hr : RowsO 3 (LetW w (Span lo w.heap.size (Value.slice A L.length c).ownBlock)) xs L) : LetsAt w A c xs L := by
  obtain ⟨A', c', e, _, _, hat⟩ := own_slice hown
  injection e with e1 _ e3
  subst e1 e3
  exact ⟨hat, hr.mono fun ds x hx => hx.1.keep (fun g hg => hg.2.1) (SameAt.refl _ _)⟩

set_option maxRecDepth 100000 in
set_option maxHeartbeats 8000000 in
theorem refSame_any (L : List Let) (A A' : Option Addr) (c c' : Nat) (xs xs' : List Value) (w : World) (h1 : LetsAt w A c xs L) (h2 : LetsAt w A' c' xs' L) (hL : L.length ≤ 1000000) :
    Calls Try.prog 12 #[.slice A L.length c, .slice A' L.length c'] w fun e w' => e = .returned (.bool true) ∧ Below w.heap.size w w' := by
  have H1 := Lib.hid fun W (hW : Below w.heap.size w W) => h1.then hW
  have H2 := Lib.hid fun W (hW : Below w.heap.size w W) => h2.then hW
  clear h1 h2
  go_enter Try.func12, Try.ntmps12
  go_wp2
  go_loopw [5] (fun i wr => ∃ j : Nat, j ≤ L.length ∧ i = .int .i64 j ∧ Below w.heap.size w wr) (fun i _ => L.length - (intOf i).toNat)
  case atStart => exact ⟨0, Nat.zero_le _, rfl, Below.refl _ _⟩
  case round =>
    obtain ⟨j, hj, rfl, hb⟩ := hrel
    by_cases hlt : j < L.length
    · obtain ⟨b, o, B, d, rfl, hbs, ⟨a0, a1, a2⟩, -, -, -, ha⟩ := (H1.out wr hb).row hlt
      obtain ⟨b', o', B', d', rfl, hbs', ⟨p0, p1, p2⟩, -, -, -, hp⟩ := (H2.out wr hb).row hlt
      have HC := Lib.hid fun W (hW : Below wr.heap.size wr W) => sameLetter_any L[j] B B' d d' W (ha.arg hW) (hp.arg hW)
      obtain ⟨x, hx⟩ : ∃ x, x = L[j] := ⟨_, rfl⟩
      rw [← hx] at a0 a1 a2 p0 p1 p2 HC
      clear ha hp hx
      go_wp2_with fail
      go_region_held3 (fun w' => w'.cell? ⟨b, o + j * 3, none⟩ = some (.int .u64 (x.to : Int)) ∧ w'.cell? ⟨b, o + j * 3 + 1, none⟩ = some (.slice B x.fr.length d) ∧ w'.cell? ⟨b, o + j * 3 + 2, none⟩ = some (.bool x.sp) ∧ w'.cell? ⟨b', o' + j * 3, none⟩ = some (.int .u64 (x.to : Int)) ∧ w'.cell? ⟨b', o' + j * 3 + 1, none⟩ = some (.slice B' x.fr.length d') ∧ w'.cell? ⟨b', o' + j * 3 + 2, none⟩ = some (.bool x.sp)) (go_keep)
        (first | (go_at_call 22; (with_reducible refine (HC.out _ (Below.refl _ _).drew).mono ?_); rintro e w4 ⟨rfl, b4⟩; have b5 : Below wr.heap.size wr w4 := ⟨b4.os, b4.tape, b4.output, b4.size, b4.block⟩; have a0 := (b5.cell (p := ⟨b, o + j * 3, none⟩) hbs).trans a0; have a1 := (b5.cell (p := ⟨b, o + j * 3 + 1, none⟩) hbs).trans a1; have a2 := (b5.cell (p := ⟨b, o + j * 3 + 2, none⟩) hbs).trans a2; have p0 := (b5.cell (p := ⟨b', o' + j * 3, none⟩) hbs').trans p0; have p1 := (b5.cell (p := ⟨b', o' + j * 3 + 1, none⟩) hbs').trans p1; have p2 := (b5.cell (p := ⟨b', o' + j * 3 + 2, none⟩) hbs').trans p2; have HX := Lib.hid b5; clear b4 b5))
      all_goals
        have b6 := bthen hb HX.out
        clear HX a0 a1 a2 p0 p1 p2
        go_wp2
        go_roundw
        case rel => exact ⟨j + 1, by omega, by go_num, by first | exact b6 | exact Below.drewN' b6 _⟩
        case measure => simp [intOf]; omega
    · go_wp2
      go_ret
      exact ⟨rfl, hb⟩

set_option maxRecDepth 100000 in
set_option maxHeartbeats 4000000 in
theorem refCount_any (S : Nat → Prop) (r0 tw : Nat) (L : List Let) (w : World) (h : RefO w S r0 L) (hL : L.length ≤ 1000000) :
    Calls Try.prog 32 #[.pointer (some ⟨r0, 0, none⟩), .int .u64 (tw : Int)] w fun e w' => e = .returned (.int .i64 (countL tw L : Int)) ∧ w = w' := by
  obtain ⟨A, c, xs0, hn⟩ := h
  have q0 := hn.1
  have HN := Lib.hid hn
  clear hn
  go_enter Try.func32, Try.ntmps32
  go_wp2
  go_loop [5, 6] (fun r i => ∃ (j q : Nat), j ≤ L.length ∧ i = .int .i64 j ∧ r = .int .i64 q ∧ q ≤ j ∧ Hid (q = countL tw (L.take j))) (fun _ i => L.length - (intOf i).toNat)
  case atStart => exact ⟨0, 0, Nat.zero_le _, rfl, rfl, Nat.le_refl _, by simp [Hid, countL]⟩
  case round =>
    obtain ⟨j, q, hj, rfl, rfl, hq, HQ⟩ := hrel
    by_cases hlt : j < L.length
    · obtain ⟨b, B, d, rfl, hSb, hbs, hbr, ⟨a0, a1, a2⟩, -⟩ := HN.out.row hlt
      have hT := countL_take (tw := tw) hlt
      clear a1 a2
      by_cases e : L[j].to = tw
      · have e1 : (((L[j].to : Nat) : Int) == (tw : Int)) = true := by simp [e]
        have HN2 : Hid (q + 1 = countL tw (L.take (j + 1))) := by rw [hT, if_pos (by simp [e]), ← HQ.out]; rfl
        clear hT HQ e
        go_wp2
        go_round
        case rel => exact ⟨j + 1, q + 1, by omega, by go_num, by go_num, by omega, HN2⟩
        case measure => simp [intOf]; omega
      · have e1 : (((L[j].to : Nat) : Int) == (tw : Int)) = false := by rw [beq_eq_false_iff_ne]; omega
        have HN2 : Hid (q = countL tw (L.take (j + 1))) := by rw [hT, if_neg (by simp [e]), ← HQ.out]; rfl
        clear hT HQ e
        go_wp2
        go_round
        case rel => exact ⟨j + 1, q, by omega, by go_num, rfl, by omega, HN2⟩
        case measure => simp [intOf]; omega
    · have HN2 : Hid (q = countL tw L) := by
        have h1 := HQ.out
        rw [List.take_of_length_le (by omega)] at h1
        exact h1
      clear HQ
      go_wp2
      go_ret
      exact ⟨by rw [← HN2.out]; rfl, rfl⟩
/-- A net, and the document's one, made in the walk that began at w. -/
def NR (w : World) (g0 r0 : Nat) (L R : List Let) (W : World) : Prop :=
  ∃ M S : Nat → Prop, NetO W M g0 L ∧ RefO W S r0 R ∧ Below w.heap.size w W ∧ (∀ k, M k → w.heap.size ≤ k ∧ ¬ S k ∧ k ≠ r0) ∧ w.heap.size ≤ r0
section
variable {w W W' : World} {g0 r0 : Nat} {L R : List Let}
theorem NR.bel (h : NR w g0 r0 L R W) : Below w.heap.size w W := by obtain ⟨M, S, _, _, h, _⟩ := h; exact h
theorem NR.then (h : NR w g0 r0 L R W) (hb : Below W.heap.size W W') : NR w g0 r0 L R W' := by
  obtain ⟨M, S, h1, ⟨A, c, xs, h2⟩, h3, h4, h5⟩ := h
  exact ⟨M, S, h1.below hb, ⟨A, c, xs, h2.below hb⟩, h3.trans (hb.mono h3.size), h4, h5⟩
theorem NetO.lt {w : World} {M : Nat → Prop} {g0 : Nat} {L : List Let} (h : NetO w M g0 L) : ∀ k, M k → k < w.heap.size := by
  obtain ⟨A, c, xs, h⟩ := h
  exact h.2.2.2.2.2.2.2
theorem NR.net {M S : Nat → Prop} {L' : List Let} (h2 : RefO W S r0 R) (h3 : Below w.heap.size w W) (h4 : ∀ k, M k → w.heap.size ≤ k ∧ ¬ S k ∧ k ≠ r0) (h5 : w.heap.size ≤ r0) (d1 : NetO W' (Plus M W W') g0 L') (d2 : Only M W W') : NR w g0 r0 L' R W' := by
  obtain ⟨A, c, xs, h2⟩ := h2
  have s := h3.size
  have hS := h2.2.2.2.2.2.2.2
  have hr := h2.2.2.2.2.2.2.1
  refine ⟨Plus M W W', S, d1, ⟨A, c, xs, h2.keep d2.size fun k hk => d2.block k ?_ fun hm => ?_⟩, h3.trans (d2.below (by omega) fun k hk => (h4 k hk).1), fun k hk => ?_, h5⟩
  · rcases hk with hk | rfl
    · exact hS k hk
    · exact hr
  · rcases hk with hk | rfl
    · exact (h4 k hm).2.1 hk
    · exact (h4 k hm).2.2 rfl
  · rcases hk with hk | hk
    · exact h4 k hk
    · exact ⟨by omega, fun h => by have := hS k h; omega, by omega⟩
theorem NR.ref {M S : Nat → Prop} {R' : List Let} (h1 : NetO W M g0 L) (h3 : Below w.heap.size w W) (h4 : ∀ k, M k → w.heap.size ≤ k ∧ ¬ S k ∧ k ≠ r0) (h5 : w.heap.size ≤ r0) (d : RefDid W S r0 R' W') : NR w g0 r0 L R' W' := by
  have s := h3.size
  have hM := h1.lt
  refine ⟨M, More S W W', h1.keep d.2 fun k hk e => (h4 k hk).2.2 e, d.1, h3.trans (d.2.below (by omega) fun k hk => by omega), fun k hk => ⟨(h4 k hk).1, fun h => ?_, (h4 k hk).2.2⟩, h5⟩
  rcases h with h | h
  · exact (h4 k hk).2.1 h
  · have := hM k hk; omega
end
/-- An error, and what there is behind it. -/
def DidNR (w : World) (g0 r0 : Nat) (L R : List Let) (n : Nat) (e : Ending) (w' : World) : Prop := e = .returned (.int .i64 (n : Int)) ∧ NR w g0 r0 L R w'
theorem send_nr {w W : World} {g0 r0 : Nat} {L R : List Let} (h : NR w g0 r0 L R W) (tw : Nat) (l : List UInt8) (B : Option Addr) (d : Nat) (hL : L.length ≤ 1000000) (h1 : At W W.heap.size 1 B l.length (l.map u8v)) (hm : l.length ≤ 140737488355328) (hto : tw < 18446744073709551616) :
    Calls Try.prog 14 #[.pointer (some ⟨g0, 0, none⟩), .int .u64 (tw : Int), .slice B l.length d] W (DidNR w g0 r0 (L ++ [⟨tw, l, false⟩]) R 0) := by
  obtain ⟨M, S, k1, k2, k3, k4, k5⟩ := h
  exact (send_any M g0 L tw l B d W k1 hL h1 hm hto).mono fun e w' ⟨he, d1, d2⟩ => ⟨he, NR.net k2 k3 k4 k5 d1 d2⟩
theorem refSend_nr {w W : World} {g0 r0 : Nat} {L R : List Let} (h : NR w g0 r0 L R W) (tw : Nat) (l : List UInt8) (B : Option Addr) (d : Nat) (hL : R.length ≤ 1000000) (h1 : At W W.heap.size 1 B l.length (l.map u8v)) (hm : l.length ≤ 140737488355328) (hto : tw < 18446744073709551616) :
    Calls Try.prog 23 #[.pointer (some ⟨r0, 0, none⟩), .int .u64 (tw : Int), .slice B l.length d] W fun e w' => e = .returned (.tuple #[]) ∧ NR w g0 r0 L (R ++ [⟨tw, l, false⟩]) w' := by
  obtain ⟨M, S, k1, k2, k3, k4, k5⟩ := h
  exact (refSend_any S r0 R tw l B d W k2 hL h1 hm hto).mono fun e w' ⟨he, d1⟩ => ⟨he, NR.ref k1 k3 k4 k5 d1⟩
/-- What a call that names a place comes to. -/
def dropX (L : List Let) (i : Int) : List Let × Nat := if 0 ≤ i ∧ i < L.length then (L.eraseIdx i.toNat, 0) else (L, 17)
def doubleX (L : List Let) (i : Int) : List Let × Nat := if h : 0 ≤ i ∧ i < L.length then (L ++ [L[i.toNat]'(by omega)], 0) else (L, 17)
def spoilAt (L : List Let) (i a : Int) (m : UInt8) : List Let × Nat := if h : 0 ≤ i ∧ i < L.length then (L.set i.toNat (spoilX (L[i.toNat]'(by omega)) a m).1, (spoilX (L[i.toNat]'(by omega)) a m).2) else (L, 17)
theorem NR.same {w W W' : World} {g0 r0 : Nat} {L R : List Let} {q : Nat} (h : NR w g0 r0 L R W) (hb : Below W.heap.size W W') : DidNR w g0 r0 L R q (.returned (.int .i64 (q : Int))) W' := ⟨rfl, h.then hb⟩
theorem drop_nr {w W : World} {g0 r0 : Nat} {L R : List Let} (h : NR w g0 r0 L R W) (i : Int) (hL : L.length ≤ 1000000) :
    Calls Try.prog 15 #[.pointer (some ⟨g0, 0, none⟩), .int .i64 i] W (DidNR w g0 r0 (dropX L i).1 R (dropX L i).2) := by
  by_cases hi : 0 ≤ i ∧ i < L.length
  · have e : dropX L i = (L.eraseIdx i.toNat, 0) := by unfold dropX; rw [if_pos hi]
    obtain ⟨k, rfl⟩ : ∃ k : Nat, i = (k : Int) := ⟨i.toNat, by omega⟩
    rw [e]
    obtain ⟨M, S, k1, k2, k3, k4, k5⟩ := h
    exact (drop_in M g0 k L W k1 (by omega) hL).mono fun e w' ⟨he, d1, d2⟩ => ⟨he, NR.net k2 k3 k4 k5 d1 d2⟩
  · have e : dropX L i = (L, 17) := by unfold dropX; rw [if_neg hi]
    rw [e]
    obtain ⟨M, S, ⟨A, c, xs, k1⟩, k⟩ := h
    exact (dropOut_any i W k1.1 (by omega)).mono fun e w' ⟨he, d1⟩ => ⟨he, NR.then ⟨M, S, ⟨A, c, xs, k1⟩, k⟩ d1⟩
theorem double_nr {w W : World} {g0 r0 : Nat} {L R : List Let} (h : NR w g0 r0 L R W) (i : Int) (hL : L.length ≤ 1000000) :
    Calls Try.prog 18 #[.pointer (some ⟨g0, 0, none⟩), .int .i64 i] W (DidNR w g0 r0 (doubleX L i).1 R (doubleX L i).2) := by
  by_cases hi : 0 ≤ i ∧ i < L.length
  · have e : doubleX L i = (L ++ [L[i.toNat]'(by omega)], 0) := by unfold doubleX; rw [dif_pos hi]
    obtain ⟨k, rfl⟩ : ∃ k : Nat, i = (k : Int) := ⟨i.toNat, by omega⟩
    rw [e]
    obtain ⟨M, S, k1, k2, k3, k4, k5⟩ := h
    exact (double_in M g0 k L W k1 (by omega) hL).mono fun e w' ⟨he, d1, d2⟩ => ⟨he, NR.net k2 k3 k4 k5 d1 d2⟩
  · have e : doubleX L i = (L, 17) := by unfold doubleX; rw [dif_neg hi]
    rw [e]
    obtain ⟨M, S, ⟨A, c, xs, k1⟩, k⟩ := h
    exact (doubleOut_any i W k1.1 (by omega)).mono fun e w' ⟨he, d1⟩ => ⟨he, NR.then ⟨M, S, ⟨A, c, xs, k1⟩, k⟩ d1⟩
theorem spoil_nr {w W : World} {g0 r0 : Nat} {L R : List Let} (h : NR w g0 r0 L R W) (i a : Int) (m : UInt8) (hL : L.length ≤ 1000000) (ha1 : -9223372036854775808 ≤ a) (ha2 : a ≤ 9223372036854775807) :
    Calls Try.prog 19 #[.pointer (some ⟨g0, 0, none⟩), .int .i64 i, .int .i64 a, u8v m] W (DidNR w g0 r0 (spoilAt L i a m).1 R (spoilAt L i a m).2) := by
  by_cases hi : 0 ≤ i ∧ i < L.length
  · have e : spoilAt L i a m = (L.set i.toNat (spoilX (L[i.toNat]'(by omega)) a m).1, (spoilX (L[i.toNat]'(by omega)) a m).2) := by unfold spoilAt; rw [dif_pos hi]
    obtain ⟨k, rfl⟩ : ∃ k : Nat, i = (k : Int) := ⟨i.toNat, by omega⟩
    rw [e]
    obtain ⟨M, S, k1, k2, k3, k4, k5⟩ := h
    exact (netSpoil_in M g0 k L a m W k1 (by omega) hL ha1 ha2).mono fun e w' ⟨he, d1, d2⟩ => ⟨he, NR.net k2 k3 k4 k5 d1 d2⟩
  · have e : spoilAt L i a m = (L, 17) := by unfold spoilAt; rw [dif_neg hi]
    rw [e]
    obtain ⟨M, S, ⟨A, c, xs, k1⟩, k⟩ := h
    exact (spoilOut_any i a m.toNat W k1.1 (by omega)).mono fun e w' ⟨he, d1⟩ => ⟨he, NR.then ⟨M, S, ⟨A, c, xs, k1⟩, k⟩ d1⟩
theorem refDrop_nr {w W : World} {g0 r0 : Nat} {L R : List Let} (h : NR w g0 r0 L R W) (i : Int) (hL : R.length ≤ 1000000) :
    Calls Try.prog 30 #[.pointer (some ⟨r0, 0, none⟩), .int .i64 i] W (DidNR w g0 r0 L (dropX R i).1 (dropX R i).2) := by
  obtain ⟨M, S, k1, k2, k3, k4, k5⟩ := h
  by_cases hi : 0 ≤ i ∧ i < R.length
  · have e : dropX R i = (R.eraseIdx i.toNat, 0) := by unfold dropX; rw [if_pos hi]
    obtain ⟨k, rfl⟩ : ∃ k : Nat, i = (k : Int) := ⟨i.toNat, by omega⟩
    rw [e]
    exact (refDrop_in S r0 k R W k2 (by omega) hL).mono fun e w' ⟨he, d1⟩ => ⟨he, NR.ref k1 k3 k4 k5 d1⟩
  · have e : dropX R i = (R, 17) := by unfold dropX; rw [if_neg hi]
    rw [e]
    exact (refDropOut_any S r0 R i W k2 (by omega)).mono fun e w' ⟨he, d1⟩ => ⟨he, NR.ref k1 k3 k4 k5 d1⟩
theorem refDouble_nr {w W : World} {g0 r0 : Nat} {L R : List Let} (h : NR w g0 r0 L R W) (i : Int) (hL : R.length ≤ 1000000) :
    Calls Try.prog 31 #[.pointer (some ⟨r0, 0, none⟩), .int .i64 i] W (DidNR w g0 r0 L (doubleX R i).1 (doubleX R i).2) := by
  obtain ⟨M, S, k1, k2, k3, k4, k5⟩ := h
  by_cases hi : 0 ≤ i ∧ i < R.length
  · have e : doubleX R i = (R ++ [R[i.toNat]'(by omega)], 0) := by unfold doubleX; rw [dif_pos hi]
    obtain ⟨k, rfl⟩ : ∃ k : Nat, i = (k : Int) := ⟨i.toNat, by omega⟩
    rw [e]
    exact (refDouble_in S r0 k R W k2 (by omega) hL).mono fun e w' ⟨he, d1⟩ => ⟨he, NR.ref k1 k3 k4 k5 d1⟩
  · have e : doubleX R i = (R, 17) := by unfold doubleX; rw [dif_neg hi]
    rw [e]
    exact (refDoubleOut_any S r0 R i W k2 (by omega)).mono fun e w' ⟨he, d1⟩ => ⟨he, NR.ref k1 k3 k4 k5 d1⟩
theorem refSpoil_nr {w W : World} {g0 r0 : Nat} {L R : List Let} (h : NR w g0 r0 L R W) (i a : Int) (m : UInt8) (hL : R.length ≤ 1000000) :
    Calls Try.prog 24 #[.pointer (some ⟨r0, 0, none⟩), .int .i64 i, .int .i64 a, u8v m] W (DidNR w g0 r0 L (spoilAt R i a m).1 (spoilAt R i a m).2) := by
  obtain ⟨M, S, k1, k2, k3, k4, k5⟩ := h
  by_cases hi : 0 ≤ i ∧ i < R.length
  · have e : spoilAt R i a m = (R.set i.toNat (spoilX (R[i.toNat]'(by omega)) a m).1, (spoilX (R[i.toNat]'(by omega)) a m).2) := by unfold spoilAt; rw [dif_pos hi]
    obtain ⟨k, rfl⟩ : ∃ k : Nat, i = (k : Int) := ⟨i.toNat, by omega⟩
    rw [e]
    exact (refSpoil_in S r0 k R a m W k2 (by omega) hL).mono fun e w' ⟨he, d1⟩ => ⟨he, NR.ref k1 k3 k4 k5 d1⟩
  · have e : spoilAt R i a m = (R, 17) := by unfold spoilAt; rw [dif_neg hi]
    rw [e]
    exact (refSpoilOut_any S r0 R i a m.toNat W k2 (by omega)).mono fun e w' ⟨he, d1⟩ => ⟨he, NR.ref k1 k3 k4 k5 d1⟩
theorem nr_new (w : World) : NR w w.heap.size (w.heap.size + 1) [] [] ((w.alloc (.cells #[.slice none 0 0] 27)).alloc (.cells #[.slice none 0 0] 30)) := by
  obtain ⟨M, h1, h2, h3⟩ := st_new (w := w)
  obtain ⟨wa, hwa⟩ : ∃ wa, wa = w.alloc (.cells #[.slice none 0 0] 27) := ⟨_, rfl⟩
  have s : wa.heap.size = w.heap.size + 1 := by rw [hwa]; simp
  rw [← hwa] at h1 h2 ⊢
  have b : Below wa.heap.size wa (wa.alloc (.cells #[.slice none 0 0] 30)) := (Below.refl _ _).alloc (Nat.le_refl _) _
  have o1 : (wa.alloc (.cells #[.slice none 0 0] 30)).heap[wa.heap.size]? = some (.cells #[.slice none 0 0] 30 (0, 0)) := heap_alloc_new wa _
  rw [s] at o1
  refine ⟨M, fun _ => False, h1.below b, ⟨none, 0, [], ?_, frozen_of_row _ _ 0 _ _ o1, Nat.le_refl _, RowsO.nil 3 _, fun h => by simp at h, fun h => h, by simp; omega, fun k hk => hk.elim⟩, h2.trans (b.mono (by omega)), fun k hk => ⟨h3 k hk, fun h => h, fun e => ?_⟩, by omega⟩
  · rw [cell_of_row _ _ 0 _ _ (0, 0) o1]; rfl
  · have := h1.lt k hk; omega
end Go.Proofs.Ytponmokiogdejaa
