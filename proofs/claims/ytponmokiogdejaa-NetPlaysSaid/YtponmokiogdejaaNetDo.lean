import Derived.Test.YtponmokiogdejaaNetTake
namespace Go.Proofs.Ytponmokiogdejaa
open Go.RowKit
set_option linter.unusedSimpArgs false
set_option linter.unusedVariables false

/-- A call: its kind, to whom, bytes, a place, a byte's place, a mask. -/
structure NAct where
  kind : Int
  tow : Nat
  fr : List UInt8
  at_ : Int
  n : Int
  mask : UInt8
def NAct.cells (a : NAct) (B : Option Addr) (d : Nat) : Array Value := #[.int .i64 a.kind, .int .u64 (a.tow : Int), .slice B a.fr.length d, .int .i64 a.at_, .int .i64 a.n, .int .u8 (a.mask.toNat : Int)]
/-- What a call may be. -/
structure NAct.ok (a : NAct) : Prop where
  hto : a.tow < 18446744073709551616
  hfr : a.fr.length ≤ 140737488351232
  n1 : -9223372036854775808 ≤ a.n
  n2 : a.n ≤ 9223372036854775807
/-- The letters behind a call. -/
def NAct.step (a : NAct) (L : List Let) : List Let :=
  if a.kind = 1 then L ++ [⟨a.tow, a.fr, false⟩] else if a.kind = 2 ∨ a.kind = 3 then (dropX L a.at_).1 else if a.kind = 4 then (doubleX L a.at_).1 else if a.kind = 5 then (spoilAt L a.at_ a.n a.mask).1 else L
/-- What 'do' answers. -/
def DoPost (w : World) (r0 : Nat) (L : List Let) (e : Ending) (w' : World) : Prop := ∃ g, e = .returned (.tuple #[.pointer (some ⟨g, 0, none⟩), .bool true]) ∧ NR w g r0 L L w'
theorem act_cells {W : World} {b : Nat} {a : NAct} {B : Option Addr} {d : Nat} (h : W.heap[b]? = some (.cells (a.cells B d) 36 (0, 0))) :
    W.cell? ⟨b, 0, none⟩ = some (.int .i64 a.kind) ∧ W.cell? ⟨b, 1, none⟩ = some (.int .u64 (a.tow : Int)) ∧ W.cell? ⟨b, 2, none⟩ = some (.slice B a.fr.length d) ∧ W.cell? ⟨b, 3, none⟩ = some (.int .i64 a.at_) ∧ W.cell? ⟨b, 4, none⟩ = some (.int .i64 a.n) ∧ W.cell? ⟨b, 5, none⟩ = some (.int .u8 (a.mask.toNat : Int)) := by
  refine ⟨?_, ?_, ?_, ?_, ?_, ?_⟩
  · rw [cell_of_row _ _ 0 _ _ (0, 0) h]; rfl
  · rw [cell_of_row _ _ 1 _ _ (0, 0) h]; rfl
  · rw [cell_of_row _ _ 2 _ _ (0, 0) h]; rfl
  · rw [cell_of_row _ _ 3 _ _ (0, 0) h]; rfl
  · rw [cell_of_row _ _ 4 _ _ (0, 0) h]; rfl
  · rw [cell_of_row _ _ 5 _ _ (0, 0) h]; rfl

set_option maxRecDepth 100000 in
set_option maxHeartbeats 8000000 in
theorem do_drop (w W : World) (g0 r0 : Nat) (L : List Let) (a : NAct) (B : Option Addr) (d : Nat) (h : NR w g0 r0 L L W) (hL : L.length ≤ 1000000) (hk : a.kind = 3) :
    Calls Try.prog 10 #[.pointer (some ⟨g0, 0, none⟩), .pointer (some ⟨r0, 0, none⟩), .agg (a.cells B d)] W (DoPost w r0 (a.step L)) := by
  obtain ⟨i, hi⟩ : ∃ i, i = a.at_ := ⟨_, rfl⟩
  obtain ⟨L', q, hx⟩ : ∃ L' q, (dropX L i) = (L', q) := ⟨_, _, rfl⟩
  have hstep : a.step L = L' := by
    unfold NAct.step
    rw [hk, ← hi, hx]
    simp
  rw [hstep]
  obtain ⟨wb, hwb⟩ : ∃ wb, W.alloc (.cells (a.cells B d) 36) = wb := ⟨_, rfl⟩
  have ha : wb.heap[W.heap.size]? = some (.cells (a.cells B d) 36 (0, 0)) := by rw [← hwb]; exact heap_alloc_new W _
  have s0 : NP [(W.heap.size, .cells (a.cells B d) 36 (0, 0))] w g0 r0 L L wb := h.np.add (by rw [← hwb]; exact (Below.refl _ W).alloc (Nat.le_refl _) _) (Nat.le_refl _) ha
  obtain ⟨Z, hZ⟩ : ∃ Z, Z = [(W.heap.size, Obj.cells (a.cells B d) 36 (0, 0))] := ⟨_, rfl⟩
  have C1 := Lib.hid fun (V : World) (h : NP Z w g0 r0 L L V) => (show Calls Try.prog 15 #[.pointer (some ⟨g0, 0, none⟩), .int .i64 i] V (DidNP Z w g0 r0 L' L q) by have := drop_np h i hL; rw [hx] at this; exact this)
  have C2 := Lib.hid fun (V : World) (h : NP Z w g0 r0 L' L V) => (show Calls Try.prog 30 #[.pointer (some ⟨r0, 0, none⟩), .int .i64 i] V (DidNP Z w g0 r0 L' L' q) by have := refDrop_np h i hL; rw [hx] at this; exact this)
  rw [← hZ] at s0
  have HA := Lib.hid fun (V : World) (L R : List Let) (h : NP Z w g0 r0 L R V) => act_cells (a := a) (B := B) (d := d) (h.box (b := W.heap.size) (by rw [hZ]; exact List.mem_cons_self))
  have A0 := HA.out wb L L s0
  have e1 : ((q : Int) == (q : Int)) = true := by simp
  rw [hk, ← hi] at A0
  obtain ⟨c0, c1, c2, c3, c4, c5⟩ := A0
  unfold NAct.cells at hwb ⊢
  rw [hk, ← hi] at hwb ⊢
  have HI := Lib.hid hi
  clear h hx hstep ha hZ hi
  go_enter Try.func10, Try.ntmps10
  go_wp2_with fail
  clear hwb
  go_region_held3 (fun w' => w'.cell? ⟨W.heap.size, 3, none⟩ = some (.int .i64 i)) (go_keep)
    (first
      | (go_at_call 15; (with_reducible refine (C1.out _ (NP.then s0 (Below.refl _ _).drew)).mono ?_); rintro e w4 ⟨rfl, s4⟩; have c3 := (HA.out _ _ _ s4).2.2.2.1; rw [← HI.out] at c3)
      | (go_at_call 30; (with_reducible refine (C2.out _ (by first | exact s4 | exact NP.then s4 (Below.refl _ _).drew)).mono ?_); rintro e w5 ⟨rfl, s5⟩; have c3 := (HA.out _ _ _ s5).2.2.2.1; rw [← HI.out] at c3))
  all_goals
    have HF := Lib.hid s5.nr
    clear c0 c1 c2 c3 c4 c5 s0 s4 s5 C1 C2
    go_wp2
    go_ret2
    exact ⟨g0, rfl, HF.out⟩
set_option maxRecDepth 100000 in
set_option maxHeartbeats 8000000 in
theorem do_double (w W : World) (g0 r0 : Nat) (L : List Let) (a : NAct) (B : Option Addr) (d : Nat) (h : NR w g0 r0 L L W) (hL : L.length ≤ 1000000) (hk : a.kind = 4) :
    Calls Try.prog 10 #[.pointer (some ⟨g0, 0, none⟩), .pointer (some ⟨r0, 0, none⟩), .agg (a.cells B d)] W (DoPost w r0 (a.step L)) := by
  obtain ⟨i, hi⟩ : ∃ i, i = a.at_ := ⟨_, rfl⟩
  obtain ⟨L', q, hx⟩ : ∃ L' q, (doubleX L i) = (L', q) := ⟨_, _, rfl⟩
  have hstep : a.step L = L' := by
    unfold NAct.step
    rw [hk, ← hi, hx]
    simp
  rw [hstep]
  obtain ⟨wb, hwb⟩ : ∃ wb, W.alloc (.cells (a.cells B d) 36) = wb := ⟨_, rfl⟩
  have ha : wb.heap[W.heap.size]? = some (.cells (a.cells B d) 36 (0, 0)) := by rw [← hwb]; exact heap_alloc_new W _
  have s0 : NP [(W.heap.size, .cells (a.cells B d) 36 (0, 0))] w g0 r0 L L wb := h.np.add (by rw [← hwb]; exact (Below.refl _ W).alloc (Nat.le_refl _) _) (Nat.le_refl _) ha
  obtain ⟨Z, hZ⟩ : ∃ Z, Z = [(W.heap.size, Obj.cells (a.cells B d) 36 (0, 0))] := ⟨_, rfl⟩
  have C1 := Lib.hid fun (V : World) (h : NP Z w g0 r0 L L V) => (show Calls Try.prog 18 #[.pointer (some ⟨g0, 0, none⟩), .int .i64 i] V (DidNP Z w g0 r0 L' L q) by have := double_np h i hL; rw [hx] at this; exact this)
  have C2 := Lib.hid fun (V : World) (h : NP Z w g0 r0 L' L V) => (show Calls Try.prog 31 #[.pointer (some ⟨r0, 0, none⟩), .int .i64 i] V (DidNP Z w g0 r0 L' L' q) by have := refDouble_np h i hL; rw [hx] at this; exact this)
  rw [← hZ] at s0
  have HA := Lib.hid fun (V : World) (L R : List Let) (h : NP Z w g0 r0 L R V) => act_cells (a := a) (B := B) (d := d) (h.box (b := W.heap.size) (by rw [hZ]; exact List.mem_cons_self))
  have A0 := HA.out wb L L s0
  have e1 : ((q : Int) == (q : Int)) = true := by simp
  rw [hk, ← hi] at A0
  obtain ⟨c0, c1, c2, c3, c4, c5⟩ := A0
  unfold NAct.cells at hwb ⊢
  rw [hk, ← hi] at hwb ⊢
  have HI := Lib.hid hi
  clear h hx hstep ha hZ hi
  go_enter Try.func10, Try.ntmps10
  go_wp2_with fail
  clear hwb
  go_region_held3 (fun w' => w'.cell? ⟨W.heap.size, 3, none⟩ = some (.int .i64 i)) (go_keep)
    (first
      | (go_at_call 18; (with_reducible refine (C1.out _ (NP.then s0 (Below.refl _ _).drew)).mono ?_); rintro e w4 ⟨rfl, s4⟩; have c3 := (HA.out _ _ _ s4).2.2.2.1; rw [← HI.out] at c3)
      | (go_at_call 31; (with_reducible refine (C2.out _ (by first | exact s4 | exact NP.then s4 (Below.refl _ _).drew)).mono ?_); rintro e w5 ⟨rfl, s5⟩; have c3 := (HA.out _ _ _ s5).2.2.2.1; rw [← HI.out] at c3))
  all_goals
    have HF := Lib.hid s5.nr
    clear c0 c1 c2 c3 c4 c5 s0 s4 s5 C1 C2
    go_wp2
    go_ret2
    exact ⟨g0, rfl, HF.out⟩
set_option maxRecDepth 100000 in
set_option maxHeartbeats 8000000 in
theorem do_spoil (w W : World) (g0 r0 : Nat) (L : List Let) (a : NAct) (B : Option Addr) (d : Nat) (h : NR w g0 r0 L L W) (hL : L.length ≤ 1000000) (hk : a.kind = 5) (ok : a.ok) :
    Calls Try.prog 10 #[.pointer (some ⟨g0, 0, none⟩), .pointer (some ⟨r0, 0, none⟩), .agg (a.cells B d)] W (DoPost w r0 (a.step L)) := by
  obtain ⟨i, hi⟩ : ∃ i, i = a.at_ := ⟨_, rfl⟩
  obtain ⟨n, hn⟩ : ∃ n, n = a.n := ⟨_, rfl⟩
  obtain ⟨m, hm⟩ : ∃ m, m = a.mask := ⟨_, rfl⟩
  have n1 := ok.n1
  have n2 := ok.n2
  rw [← hn] at n1 n2
  obtain ⟨L', q, hx⟩ : ∃ L' q, spoilAt L i n m = (L', q) := ⟨_, _, rfl⟩
  have hstep : a.step L = L' := by
    unfold NAct.step
    rw [hk, ← hi, ← hn, ← hm, hx]
    simp
  rw [hstep]
  obtain ⟨wb, hwb⟩ : ∃ wb, W.alloc (.cells (a.cells B d) 36) = wb := ⟨_, rfl⟩
  have ha : wb.heap[W.heap.size]? = some (.cells (a.cells B d) 36 (0, 0)) := by rw [← hwb]; exact heap_alloc_new W _
  have s0 : NP [(W.heap.size, .cells (a.cells B d) 36 (0, 0))] w g0 r0 L L wb := h.np.add (by rw [← hwb]; exact (Below.refl _ W).alloc (Nat.le_refl _) _) (Nat.le_refl _) ha
  obtain ⟨Z, hZ⟩ : ∃ Z, Z = [(W.heap.size, Obj.cells (a.cells B d) 36 (0, 0))] := ⟨_, rfl⟩
  have C1 := Lib.hid fun (V : World) (h : NP Z w g0 r0 L L V) => (show Calls Try.prog 19 #[.pointer (some ⟨g0, 0, none⟩), .int .i64 i, .int .i64 n, .int .u8 (m.toNat : Int)] V (DidNP Z w g0 r0 L' L q) by have := spoil_np h i n m hL n1 n2; rw [hx] at this; exact this)
  have C2 := Lib.hid fun (V : World) (h : NP Z w g0 r0 L' L V) => (show Calls Try.prog 24 #[.pointer (some ⟨r0, 0, none⟩), .int .i64 i, .int .i64 n, .int .u8 (m.toNat : Int)] V (DidNP Z w g0 r0 L' L' q) by have := refSpoil_np h i n m hL; rw [hx] at this; exact this)
  rw [← hZ] at s0
  have HA := Lib.hid fun (V : World) (L R : List Let) (h : NP Z w g0 r0 L R V) => act_cells (a := a) (B := B) (d := d) (h.box (b := W.heap.size) (by rw [hZ]; exact List.mem_cons_self))
  have A0 := HA.out wb L L s0
  have e1 : ((q : Int) == (q : Int)) = true := by simp
  rw [hk, ← hi, ← hn, ← hm] at A0
  obtain ⟨c0, c1, c2, c3, c4, c5⟩ := A0
  unfold NAct.cells at hwb ⊢
  rw [hk, ← hi, ← hn, ← hm] at hwb ⊢
  have HI := Lib.hid hi
  have HN := Lib.hid hn
  have HM := Lib.hid hm
  clear h hx hstep ha hZ hi hn hm n1 n2 ok
  go_enter Try.func10, Try.ntmps10
  go_wp2_with fail
  clear hwb
  go_region_held3 (fun w' => w'.cell? ⟨W.heap.size, 3, none⟩ = some (.int .i64 i) ∧ w'.cell? ⟨W.heap.size, 4, none⟩ = some (.int .i64 n) ∧ w'.cell? ⟨W.heap.size, 5, none⟩ = some (.int .u8 (m.toNat : Int))) (go_keep)
    (first
      | (go_at_call 19; (with_reducible refine (C1.out _ (NP.then s0 (Below.refl _ _).drew)).mono ?_); rintro e w4 ⟨rfl, s4⟩; obtain ⟨-, -, -, c3, c4, c5⟩ := HA.out _ _ _ s4; rw [← HI.out] at c3; rw [← HN.out] at c4; rw [← HM.out] at c5)
      | (go_at_call 24; (with_reducible refine (C2.out _ (by first | exact s4 | exact NP.then s4 (Below.refl _ _).drew)).mono ?_); rintro e w5 ⟨rfl, s5⟩; obtain ⟨-, -, -, c3, c4, c5⟩ := HA.out _ _ _ s5; rw [← HI.out] at c3; rw [← HN.out] at c4; rw [← HM.out] at c5))
  all_goals
    have HF := Lib.hid s5.nr
    clear c0 c1 c2 c3 c4 c5 s0 s4 s5 C1 C2
    go_wp2
    go_ret2
    exact ⟨g0, rfl, HF.out⟩

set_option maxRecDepth 100000 in
set_option maxHeartbeats 8000000 in
theorem do_send (w W : World) (g0 r0 : Nat) (L : List Let) (a : NAct) (B : Option Addr) (d : Nat) (h : NR w g0 r0 L L W) (hL : L.length ≤ 1000000) (hk : a.kind = 1) (ok : a.ok) (hB : At w w.heap.size 1 B a.fr.length (a.fr.map u8v)) :
    Calls Try.prog 10 #[.pointer (some ⟨g0, 0, none⟩), .pointer (some ⟨r0, 0, none⟩), .agg (a.cells B d)] W (DoPost w r0 (a.step L)) := by
  obtain ⟨tw, htw⟩ : ∃ tw, tw = a.tow := ⟨_, rfl⟩
  obtain ⟨l, hl⟩ : ∃ l, l = a.fr := ⟨_, rfl⟩
  have o1 := ok.hto
  have o2 := ok.hfr
  rw [← htw] at o1
  rw [← hl] at o2 hB
  have hstep : a.step L = L ++ [⟨tw, l, false⟩] := by
    unfold NAct.step
    rw [hk, ← htw, ← hl]
    simp
  rw [hstep]
  obtain ⟨wb, hwb⟩ : ∃ wb, W.alloc (.cells (a.cells B d) 36) = wb := ⟨_, rfl⟩
  have bb : Below W.heap.size W wb := by rw [← hwb]; exact (Below.refl _ W).alloc (Nat.le_refl _) _
  have ha : wb.heap[W.heap.size]? = some (.cells (a.cells B d) 36 (0, 0)) := by rw [← hwb]; exact heap_alloc_new W _
  have s0 : NP [(W.heap.size, .cells (a.cells B d) 36 (0, 0))] w g0 r0 L L wb := h.np.add bb (Nat.le_refl _) ha
  obtain ⟨Z, hZ⟩ : ∃ Z, Z = [(W.heap.size, Obj.cells (a.cells B d) 36 (0, 0))] := ⟨_, rfl⟩
  obtain ⟨L', hL'⟩ : ∃ L' : List Let, L' = L ++ [⟨tw, l, false⟩] := ⟨_, rfl⟩
  have C1 := Lib.hid fun (V : World) (h : NP Z w g0 r0 L L V) => (show Calls Try.prog 23 #[.pointer (some ⟨r0, 0, none⟩), .int .u64 (tw : Int), .slice B l.length d] V (fun e w' => e = .returned (.tuple #[]) ∧ NP Z w g0 r0 L L' w') by rw [hL']; exact refSend_np h tw l B d hL (hB.arg h.bel) (by omega) o1)
  have C2 := Lib.hid fun (V : World) (B' : Option Addr) (d' : Nat) (h : NP Z w g0 r0 L L' V) (hV : At V V.heap.size 1 B' l.length (l.map u8v)) => (show Calls Try.prog 14 #[.pointer (some ⟨g0, 0, none⟩), .int .u64 (tw : Int), .slice B' l.length d'] V (DidNP Z w g0 r0 L' L' 0) by
    have := send_np h tw l B' d' hL hV (by omega) o1; rw [← hL'] at this; exact this)
  have C0 := Lib.hid fun (V : World) (L R : List Let) (h : NP Z w g0 r0 L R V) => nown_row B d V.heap.size l V (hB.arg h.bel) (by omega)
  rw [← hZ] at s0
  have HA := Lib.hid fun (V : World) (L R : List Let) (h : NP Z w g0 r0 L R V) => act_cells (a := a) (B := B) (d := d) (h.box (b := W.heap.size) (by rw [hZ]; exact List.mem_cons_self))
  have A0 := HA.out wb L L s0
  rw [hk, ← htw, ← hl] at A0
  obtain ⟨c0, c1, c2, c3, c4, c5⟩ := A0
  unfold NAct.cells at hwb ⊢
  rw [hk, ← htw, ← hl] at hwb ⊢
  have HTW := Lib.hid htw
  have HLL := Lib.hid hl
  have HL' := Lib.hid hL'
  clear h hstep ha hZ htw hl hL' ok hB bb
  go_enter Try.func10, Try.ntmps10
  go_wp2_with fail
  clear hwb
  ((with_reducible refine (C1.out _ s0).mono ?_); rintro e w3 ⟨rfl, s3⟩)
  obtain ⟨-, c1, c2, -, -, -⟩ := HA.out _ _ _ s3
  rw [← HTW.out] at c1
  rw [← HLL.out] at c2
  clear c0 c3 c4 c5 s0 C1
  go_wp2_with fail
  go_region_held3 (fun w' => w'.cell? ⟨W.heap.size, 1, none⟩ = some (.int .u64 (tw : Int)) ∧ w'.cell? ⟨W.heap.size, 2, none⟩ = some (.slice B l.length d)) (go_keep)
    (first
      | (go_at_call 17; (with_reducible refine (C0.out _ _ _ (NP.then s3 (Below.refl _ _).drew)).mono ?_); rintro e w4 ⟨v4, rfl, hown4, b4⟩; obtain ⟨A4, c4, rfl, _, _, hat4⟩ := own_slice hown4; have s4 := NP.then (NP.then s3 (Below.refl _ _).drew) b4; obtain ⟨-, c1, c2, -, -, -⟩ := HA.out _ _ _ s4; rw [← HTW.out] at c1; rw [← HLL.out] at c2)
      | (go_at_call 14; (with_reducible refine (C2.out _ _ _ (by first | exact s4 | exact NP.then s4 (Below.refl _ _).drew) (by first | exact hat4 | exact hat4.then (Below.refl _ _).drew)).mono ?_); rintro e w5 ⟨rfl, s5⟩; obtain ⟨-, c1, c2, -, -, -⟩ := HA.out _ _ _ s5; rw [← HTW.out] at c1; rw [← HLL.out] at c2))
  all_goals
    have HF := Lib.hid s5.nr
    clear c1 c2 s3 s4 s5 C2 C0 hat4 hown4 b4
    go_wp2
    go_ret2
    exact ⟨g0, rfl, by rw [← HL'.out]; exact HF.out⟩

set_option maxRecDepth 100000 in
set_option maxHeartbeats 8000000 in
theorem do_other (w W : World) (g0 r0 : Nat) (L : List Let) (a : NAct) (B : Option Addr) (d : Nat) (h : NR w g0 r0 L L W) (hk : a.kind < 1 ∨ 6 < a.kind) :
    Calls Try.prog 10 #[.pointer (some ⟨g0, 0, none⟩), .pointer (some ⟨r0, 0, none⟩), .agg (a.cells B d)] W (DoPost w r0 (a.step L)) := by
  obtain ⟨k, hkk⟩ : ∃ k, k = a.kind := ⟨_, rfl⟩
  rw [← hkk] at hk
  have hstep : a.step L = L := by
    unfold NAct.step
    rw [← hkk, if_neg (by omega), if_neg (by omega), if_neg (by omega), if_neg (by omega)]
  rw [hstep]
  obtain ⟨wb, hwb⟩ : ∃ wb, W.alloc (.cells (a.cells B d) 36) = wb := ⟨_, rfl⟩
  have bb : Below W.heap.size W wb := by rw [← hwb]; exact (Below.refl _ W).alloc (Nat.le_refl _) _
  have ha : wb.heap[W.heap.size]? = some (.cells (a.cells B d) 36 (0, 0)) := by rw [← hwb]; exact heap_alloc_new W _
  obtain ⟨c0, c1, c2, c3, c4, c5⟩ := act_cells ha
  have HF := Lib.hid (h.then bb)
  have e1 : (k == 1) = false := by rw [beq_eq_false_iff_ne]; omega
  have e2 : (k == 2) = false := by rw [beq_eq_false_iff_ne]; omega
  have e3 : (k == 3) = false := by rw [beq_eq_false_iff_ne]; omega
  have e4 : (k == 4) = false := by rw [beq_eq_false_iff_ne]; omega
  have e5 : (k == 5) = false := by rw [beq_eq_false_iff_ne]; omega
  have e6 : (k == 6) = false := by rw [beq_eq_false_iff_ne]; omega
  unfold NAct.cells at hwb ⊢
  rw [← hkk] at hwb c0 ⊢
  clear h ha bb hstep hkk hk c1 c2 c3 c4 c5
  go_enter Try.func10, Try.ntmps10
  go_wp2
  go_ret2
  exact ⟨g0, rfl, HF.out⟩
end Go.Proofs.Ytponmokiogdejaa
