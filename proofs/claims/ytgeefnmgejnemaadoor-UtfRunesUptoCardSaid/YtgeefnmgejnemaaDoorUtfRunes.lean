/- utf.Runes: the iterator over the runes of bytes. -/
import Derived.Test.YtgeefnmgejnemaaDoorUtfText
import Derived.Test.YtgeefnmgejnemaaDoorStr
import Derived.RangeFuncNested
import Derived.RangeFuncBound
import Derived.RangeFuncCalls
import Derived.RangeFuncLeaves
import Derived.RangeFuncBox
import Derived.Shelf.Abstract
import Derived.Shelf.RegionOpen
import Derived.OwnWalkIn
import Derived.TacticsInMore
import Derived.LoopNIn
import Derived.LoopIn
namespace Go.Proofs.YtgeefnmgejnemaaDoor
open Go.RowKit Go.Shelf Utf
open Go.Lib (validD decodeL decodeL_N decodeN decodeL_width)
set_option linter.unusedSimpArgs false
set_option linter.unusedVariables false

attribute [local go_sem] Oper.semAt_some

theorem cell_new_u (W : World) (v : Value) (t : TypeId) : (W.alloc (.cells #[v] t)).cell? ⟨W.heap.size, 0, none⟩ = some v ∧ (W.alloc (.cells #[v] t)).frozen? ⟨W.heap.size, 0, none⟩ = false := by
  have h := heap_alloc_new W (.cells #[v] t)
  exact ⟨by rw [cell_of_row _ _ 0 _ t (0, 0) h]; rfl, frozen_of_row _ _ 0 _ t h⟩
theorem grown_none {W W' : World} (h : Below W.heap.size W W') : W.grownBy W' none := ⟨h.os, h.tape, h.output, h.size, fun k hk _ => h.block k hk⟩

/-- What Go's first rune is, against the document's. -/
def First (w : World) (l : List UInt8) (e : Ending) (w' : World) : Prop := ∃ r n : Nat, e = .returned (.tuple #[.int .i32 (r : Int), .int .i64 (n : Int), .bool (ok1 l)]) ∧ (ok1 l = true → (r, n) = at1 l) ∧ Below w.heap.size w w'
theorem at1_decode {l : List UInt8} : at1 l = if l = [] ∨ decodeL l = (65533, 1) then (0, 0) else decodeL l := rfl

theorem decodeGo_L (l : List UInt8) : Lib.decodeGo (bs l) = if l = [] then (65533, 0) else decodeL l := by
  unfold Lib.decodeGo
  rw [bs_size]
  by_cases h : l = []
  · subst h; rfl
  · rw [if_neg (by intro e; exact h (List.eq_nil_of_length_eq_zero e)), if_neg h]
    rfl
set_option maxHeartbeats 1000000 in
theorem first_any (l : List UInt8) (w : World) (hT : Tabs w) : Calls Tryd.prog 24 #[.string (bs l)] w (First w l) := by
  have cD : Calls Tryd.prog 37 #[.string (bs l)] w _ := Tryd.utf8_DecodeRuneInString (bs l) w hT
  rw [decodeGo_L] at cD
  by_cases h0 : l = []
  · have hok : ok1 l = false := by subst h0; rfl
    rw [if_pos h0] at cD
    simp only at cD
    have HF : Hid (∀ w', Below w.heap.size w w' → First w l (.returned (.tuple #[.int .i32 65533, .int .i64 0, .bool false])) w') := fun w' hb => ⟨65533, 0, by rw [hok]; rfl, (fun h => by rw [hok] at h; cases h), hb⟩
    have HC := Lib.hid cD
    clear cD hok h0
    go_enter Tryd.func24, Tryd.ntmps24
    go_wp2_with fail
    ((with_reducible refine HC.out.mono ?_); rintro e w1 ⟨rfl, b1⟩)
    go_wp2
    go_ret3
    exact HF.out _ b1
  · rw [if_neg h0] at cD
    have hw := decodeL_width l
    obtain ⟨r, n, hd⟩ : ∃ r n, decodeL l = (r, n) := ⟨_, _, rfl⟩
    rw [hd] at cD hw
    simp only at cD hw
    by_cases hb : r = 65533 ∧ n = 1
    · obtain ⟨rfl, rfl⟩ := hb
      have hok : ok1 l = false := by unfold ok1; rw [at1_bad hd]; rfl
      have HF : Hid (∀ w', Below w.heap.size w w' → First w l (.returned (.tuple #[.int .i32 65533, .int .i64 1, .bool false])) w') := fun w' hb => ⟨65533, 1, by rw [hok]; rfl, (fun h => by rw [hok] at h; cases h), hb⟩
      have HC := Lib.hid cD
      clear cD hok h0 hd hw
      go_enter Tryd.func24, Tryd.ntmps24
      go_wp2_with fail
      ((with_reducible refine HC.out.mono ?_); rintro e w1 ⟨rfl, b1⟩)
      go_wp2
      go_ret3
      exact HF.out _ b1
    · have ha : at1 l = (r, n) := at1_good h0 hd (fun e => hb ⟨congrArg Prod.fst e, congrArg Prod.snd e⟩)
      have hok : ok1 l = true := by unfold ok1; rw [ha]; simp; omega
      have HF : Hid (∀ w', Below w.heap.size w w' → First w l (.returned (.tuple #[.int .i32 (r : Int), .int .i64 (n : Int), .bool true])) w') := fun w' hb => ⟨r, n, by rw [hok], fun _ => ha.symm, hb⟩
      have HC := Lib.hid cD
      by_cases hn : 1 < n
      · have hn2 : decide ((1 : Int) < (n : Int)) = true := by simp; omega
        clear cD hok h0 hd ha hb
        go_enter Tryd.func24, Tryd.ntmps24
        go_wp2_with fail
        ((with_reducible refine HC.out.mono ?_); rintro e w1 ⟨rfl, b1⟩)
        go_wp2
        go_ret3
        exact HF.out _ b1
      · obtain rfl : n = 1 := by omega
        have hr : ((r : Int) != 65533) = true := by rw [bne_iff_ne]; intro e; exact hb ⟨by omega, rfl⟩
        have hr2 : ¬ (r : Int) = 65533 := by omega
        clear cD hok h0 hd ha hb
        go_enter Tryd.func24, Tryd.ntmps24
        go_wp2_with fail
        ((with_reducible refine HC.out.mono ?_); rintro e w1 ⟨rfl, b1⟩)
        go_wp2
        go_ret3
        exact HF.out _ b1

set_option maxHeartbeats 400000 in
theorem runes_any (l : List UInt8) (w : World) :
    Calls Tryd.prog 13 #[.string (bs l)] w fun e w' => e = .returned (.func (.func 23) #[] #[.pointer (some ⟨w.heap.size, 0, none⟩)]) ∧ w' = w.alloc (.cells #[.string (bs l)] 9) := by
  go_enter Tryd.func13, Tryd.ntmps13
  go_wp2
  go_ret
  exact ⟨rfl, rfl⟩

/-- What a round keeps: the iterator's own box, and what lay below a block. -/
def Kpt (Bs n₀ : Nat) (W W' : World) : Prop := W'.heap[Bs]? = W.heap[Bs]? ∧ Below n₀ W W'
theorem Kpt.t {Bs n₀ : Nat} {A B C : World} (h : Kpt Bs n₀ A B) (k : Kpt Bs n₀ B C) : Kpt Bs n₀ A C := ⟨k.1.trans h.1, h.2.trans k.2⟩
set_option maxRecDepth 100000 in
set_option maxHeartbeats 2000000 in
theorem runes1_in (n : Nat) (hn : 1 ≤ n) (l Bs n₀ : Nat) (s : List UInt8) (hs : s.length ≤ 9223372036854775807) (J Jx : List (Nat × Nat) → World → Prop) (W : World) (hJ : AbidesFrom W.heap.size J)
    (hY : ∀ pre x W, J pre W → pre.length < (runesL s).length → x.2 ≤ 1114111 → YieldAt Fence.wide (n - 1) Tryd.prog l #[.int .i64 (x.1 : Int), .int .i32 (x.2 : Int)] W fun e W' =>
      (e = .returned (.bool true) ∧ J (pre ++ [x]) W' ∧ Kpt Bs n₀ W W') ∨ (e = .returned (.bool false) ∧ Jx (pre ++ [x]) W'))
    (hBs : W.heap[Bs]? = some (.cells #[.string (bs s)] 9 (0, 0))) (hT : ∀ V, Below n₀ W V → Tabs V) (hn0 : n₀ ≤ W.heap.size) (h0 : J [] W) :
    CallsIn Fence.wide n Tryd.prog 23 #[.func (.yield l) #[] #[], .pointer (some ⟨Bs, 0, none⟩)] W fun e W' => (∃ v, e = .returned v) ∧
      ((∃ ys, ys = runesL s ∧ J ys W') ∨ (∃ pre, pre <+: runesL s ∧ Jx pre W')) := by
  refine callsIn_of_wp Tryd.func23 rfl trivial ?_ rfl
  simp only [Tryd.ntmps23, List.size_toArray, List.length_cons, List.length_nil, Nat.reduceAdd, Nat.reduceSub, Array.replicate_succ, Array.replicate_zero, List.push_toArray, List.append_toArray, List.nil_append, List.cons_append]
  obtain ⟨S, hS, hsz1, hsz2⟩ : ∃ S : ByteArray, S = bs s ∧ S.size ≤ s.length ∧ s.length ≤ S.size := ⟨_, rfl, by rw [bs_size]; exact Nat.le_refl _, by rw [bs_size]; exact Nat.le_refl _⟩
  have hcell : Hid (∀ V, Kpt Bs n₀ W V → V.cell? ⟨Bs, 0, none⟩ = some (.string S)) := fun V hV => by
    rw [cell_of_row _ _ 0 _ _ (0, 0) (hV.1.trans hBs), hS]; rfl
  have hC : Hid (∀ (k : Nat) V, Tabs V → Calls Tryd.prog 24 #[.string (S.extract k S.size)] V (First V (s.drop k))) := fun k V hV => by
    rw [hS, bs_drop]; exact first_any _ V hV
  have HJ := Lib.hid hJ
  have HT := Lib.hid hT
  have HBW : Hid (Bs < W.heap.size) := (Array.getElem?_eq_some_iff.1 hBs).1
  have c0 := hcell.out W ⟨rfl, Below.refl _ _⟩
  clear hJ hT hBs hS
  gi_wp2
  gi_loopw [3] (fun at_ wr => ∃ k : Nat, k ≤ s.length ∧ at_ = .int .i64 k ∧ Hid (∃ pre, runesL s = pre ++ runesAt s k ∧ J pre wr) ∧ Kpt Bs n₀ W wr ∧ W.heap.size ≤ wr.heap.size)
    (fun at_ _ => s.length - (intOf at_).toNat)
  case atStart => exact ⟨0, Nat.zero_le _, rfl, ⟨[], by simp [runesL], h0⟩, ⟨rfl, Below.refl _ _⟩, Nat.le_refl _⟩
  case round =>
    obtain ⟨k, hk, rfl, HP, hkp, hws⟩ := hrel
    have c1 := hcell.out wr hkp
    clear c0
    by_cases hlt : k < S.size
    · have k1 : (k : Int) ≤ S.size := by omega
      have k2 : k ≤ S.size := by omega
      have k3 : (0 : Int) ≤ k := by omega
      have HC := Lib.hid (hC.out k wr (HT.out wr hkp.2))
      cases hok : ok1 (s.drop k)
      · have hend : runesAt s k = [] := runesAt_none (by unfold ok1 at hok; simpa using hok)
        have HF : Hid (∀ V, Below wr.heap.size wr V → J (runesL s) V) := fun V hV => by
          obtain ⟨pre, hp, hj⟩ := HP.out
          rw [hend, List.append_nil] at hp
          rw [hp]
          exact HJ.out pre wr V none hj (grown_none hV) (fun r e => by cases e)
        have HOK := Lib.hid hok
        clear hok hend HP
        gi_wp2_with (refine ⟨trivial, ?_⟩; gi_at_call 24; refine (callsIn_wide.2 HC.out).mono ?_; rintro e w3 ⟨r, q, rfl, _, b3⟩; rw [HOK.out])
        refine ⟨fun _ h => (by cases h), ?_⟩
        gi_wp2
        refine bodyPost_ret (results_none rfl _ _ _) rfl ?_
        exact ⟨⟨_, rfl⟩, .inl ⟨_, rfl, HF.out _ b3⟩⟩
      · obtain ⟨kn, hkn⟩ : ∃ kn, kn = k + (at1 (s.drop k)).2 := ⟨_, rfl⟩
        obtain ⟨rv, hrv⟩ : ∃ rv, rv = (at1 (s.drop k)).1 := ⟨_, rfl⟩
        obtain ⟨wd, hwd⟩ : ∃ wd, wd = (at1 (s.drop k)).2 := ⟨_, rfl⟩
        have hnz : (at1 (s.drop k)).2 ≠ 0 := by unfold ok1 at hok; simpa using hok
        have hle := at1_le hnz
        have hgo : runesAt s k = (k, rv) :: runesAt s (k + wd) := by rw [hrv, hwd]; exact runesAt_some hnz
        rw [← hwd] at hle hnz
        obtain ⟨pre, hp, hj⟩ := HP.out
        rw [hgo] at hp
        have hlen : pre.length < (runesL s).length := by rw [hp, List.length_append, List.length_cons]; omega
        have HFI : Hid (∀ r q : Nat, (ok1 (s.drop k) = true → (r, q) = at1 (s.drop k)) → r = rv ∧ q = wd) := fun r q h => by
          have := h hok
          rw [hrv, hwd, ← this]
          exact ⟨rfl, rfl⟩
        have HY : Hid (∀ V, Below wr.heap.size wr V → YieldAt Fence.wide (n - 1) Tryd.prog l #[.int .i64 (k : Int), .int .i32 (rv : Int)] V fun e W' =>
            (e = .returned (.bool true) ∧ J (pre ++ [(k, rv)]) W' ∧ Kpt Bs n₀ V W') ∨ (e = .returned (.bool false) ∧ Jx (pre ++ [(k, rv)]) W')) := fun V hV =>
          hY pre (k, rv) V (HJ.out pre wr V none hj (grown_none hV) (fun r e => by cases e)) hlen (by show rv ≤ _; rw [hrv]; exact at1_rune_lt _)
        have HPR : Hid (runesL s = (pre ++ [(k, rv)]) ++ runesAt s (k + wd)) := by rw [Hid, hp]; simp
        have HOK := Lib.hid hok
        have hsum : IntKind.i64.wrap ((k : Int) + (wd : Int)) = ((k + wd : Nat) : Int) := by rw [IntKind.wrap_i64] <;> omega
        clear hok hp hgo hkn hrv hwd hlen hj HP
        gi_wp2_with (refine ⟨trivial, ?_⟩; gi_at_call 24; refine (callsIn_wide.2 HC.out).mono ?_; rintro e w3 ⟨r, q, rfl, hrq, b3⟩; rw [HOK.out]; obtain ⟨rfl, rfl⟩ := HFI.out r q hrq; obtain ⟨fn, tmps, assign, body, hy, hR⟩ := HY.out w3 b3)
        refine hR.mono ?_
        rintro e W4 (⟨rfl, hJ4, hk4⟩ | ⟨rfl, hJx4⟩)
        · have hk3 : Kpt Bs n₀ wr w3 := ⟨b3.block Bs (by have := HBW.out; omega), b3.mono (by omega)⟩
          have hkn := (hkp.t hk3).t hk4
          have hsz : W.heap.size ≤ W4.heap.size := by have := b3.size; have := hk4.2.size; omega
          have HN : Hid (∃ pre, runesL s = pre ++ runesAt s (k + q) ∧ J pre W4) := ⟨_, HPR.out, hJ4⟩
          clear hy hR hJ4 HY HFI HPR HC
          gi_wp2
          go_roundw
          case rel => exact ⟨k + q, hle, by rfl, HN, hkn, hsz⟩
          case measure => clear hsum; simp [intOf]; omega
        · clear hy hR HY HFI HC
          gi_wp2
          refine bodyPost_ret (results_none rfl _ _ _) rfl ?_
          exact ⟨⟨_, rfl⟩, .inr ⟨_, ⟨_, HPR.out.symm⟩, hJx4⟩⟩
    · have hF : J (runesL s) wr := by
        obtain ⟨pre, hp, hj⟩ := HP.out
        have e : s.drop k = [] := List.drop_eq_nil_of_le (by omega)
        rw [runesAt_none (by rw [e]; rfl), List.append_nil] at hp
        rw [hp]; exact hj
      have HF := Lib.hid hF
      clear hF HP
      gi_wp2
      go_end0
      exact ⟨⟨_, rfl⟩, .inl ⟨_, rfl, HF.out⟩⟩
theorem runes_stops (n : Nat) (hn : 1 ≤ n) (Bs n₀ : Nat) (s : List UInt8) (hs : s.length ≤ 9223372036854775807) (w : World) (hn0 : n₀ ≤ w.heap.size)
    (hBs : w.heap[Bs]? = some (.cells #[.string (bs s)] 9 (0, 0))) (hT : ∀ V, Below n₀ w V → Tabs V) :
    SeqStopsK Fence.wide n Tryd.prog 23 #[.pointer (some ⟨Bs, 0, none⟩)] (fun x : Nat × Nat => #[.int .i64 (x.1 : Int), .int .i32 (x.2 : Int)]) (Kpt Bs n₀) (fun ys => ys = runesL s) (fun pre => pre <+: runesL s) (runesL s).length w := fun l J Jx W hW hJ _ hY h0 =>
  runes1_in n hn l Bs n₀ s hs J Jx W hJ (fun pre x V h1 h2 _ => hY pre x V h1 h2) ((hW.block Bs (Array.getElem?_eq_some_iff.1 hBs).1).trans hBs) (fun V hV => hT V ((hW.mono hn0).trans hV)) (Nat.le_trans hn0 hW.size) h0
/-- A rune that is one. -/
def lid (r : Nat) : Nat := if r ≤ 1114111 then r else 0
theorem lid_le (r : Nat) : lid r ≤ 1114111 := by unfold lid; split <;> omega
theorem lid_self {r : Nat} (h : r ≤ 1114111) : lid r = r := if_pos h
theorem runesAt_le (s : List UInt8) : ∀ n k, s.length - k ≤ n → ∀ x ∈ runesAt s k, x.2 ≤ 1114111
  | 0, k, hn, x, hx => by
    have e : s.drop k = [] := List.drop_eq_nil_of_le (by omega)
    rw [runesAt_none (by rw [e]; rfl)] at hx
    cases hx
  | n + 1, k, hn, x, hx => by
    by_cases h : (at1 (s.drop k)).2 = 0
    · rw [runesAt_none h] at hx; cases hx
    · rw [runesAt_some h] at hx
      rcases List.mem_cons.1 hx with rfl | hx
      · exact at1_rune_lt _
      · have := at1_le h
        exact runesAt_le s n _ (by omega) x hx
theorem runes_le {s : List UInt8} {x : Nat × Nat} (h : x ∈ runesL s) : x.2 ≤ 1114111 := runesAt_le s s.length 0 (by omega) x h
theorem runes_stops_lid (n : Nat) (hn : 1 ≤ n) (Bs n₀ : Nat) (s : List UInt8) (hs : s.length ≤ 9223372036854775807) (w : World) (hn0 : n₀ ≤ w.heap.size)
    (hBs : w.heap[Bs]? = some (.cells #[.string (bs s)] 9 (0, 0))) (hT : ∀ V, Below n₀ w V → Tabs V) :
    SeqStopsK Fence.wide n Tryd.prog 23 #[.pointer (some ⟨Bs, 0, none⟩)] (fun x : Nat × Nat => #[.int .i64 (x.1 : Int), .int .i32 (lid x.2 : Int)]) (Kpt Bs n₀) (fun ys => ys = runesL s) (fun pre => pre <+: runesL s) (runesL s).length w := fun l J Jx W hW hJ _ hY h0 =>
  runes1_in n hn l Bs n₀ s hs J Jx W hJ (fun pre x V h1 h2 h3 => by have := hY pre x V h1 h2; simp only [lid_self h3] at this; exact this) ((hW.block Bs (Array.getElem?_eq_some_iff.1 hBs).1).trans hBs) (fun V hV => hT V ((hW.mono hn0).trans hV)) (Nat.le_trans hn0 hW.size) h0
theorem kpt_b {Bs n₀ : Nat} {w : World} (h1 : Bs < w.heap.size) (h2 : n₀ ≤ w.heap.size) (W : World) (l : Nat) (o o' : Obj) (hl : w.heap.size ≤ l) (ho : W.heap[l]? = some o) (hc : o.isCells = false) (hw : o.isWalk = false) : Kpt Bs n₀ W (W.putObj l o') := by
  have hb := belowK_b (w := w) h2 W l o o' hl ho hc hw
  refine ⟨?_, hb⟩
  have hg := grownBy_putObj' W l o'
  rcases Nat.lt_or_ge Bs W.heap.size with h | h
  · exact hg.block Bs h (fun e => by injection e with e; omega)
  · have hlt : l < W.heap.size := (Array.getElem?_eq_some_iff.1 ho).1
    omega
end Go.Proofs.YtgeefnmgejnemaaDoor
