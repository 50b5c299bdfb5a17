import Derived.Test.YtponmokiogdejaaNetDouble
namespace Go.Proofs.Ytponmokiogdejaa
open Go.RowKit
set_option linter.unusedSimpArgs false
set_option linter.unusedVariables false


set_option maxHeartbeats 1000000 in
theorem withDrop_in {M : Nat → Prop} {g0 k : Nat} {L : List Let} {A : Option Addr} {c : Nat} {xs : List Value} {w : World} {R : Nat → World → Prop} (c1 c2 : Value) (hn : NetAt w M g0 L A c xs) (hk : k < L.length) (hL : L.length ≤ 1000000)
    (hc : ∀ b, A = some ⟨b, 0, none⟩ → Calls Try.prog 35 #[.pointer (some ⟨b, k * 3, none⟩), c1, c2] w (Errs R)) :
    Calls Try.prog 34 #[.pointer (some ⟨g0, 0, none⟩), .int .i64 (k : Int), .func (.func 35) #[] #[c1, c2]] w (Errs R) := by
  obtain ⟨b, B, d, hA, -⟩ := net_row hn hk
  have HC := Lib.hid (hc b hA)
  have q0 := hn.1
  subst hA
  clear hc hn
  go_enter Try.func34, Try.ntmps34
  go_wp2_with fail
  ((with_reducible refine HC.out.mono ?_); rintro e w4 ⟨n, rfl, hr⟩)
  have HR := Lib.hid hr
  clear hr
  go_wp2
  go_ret
  exact ⟨n, rfl, HR.out⟩
set_option maxHeartbeats 1000000 in
theorem withDrop_out {g0 : Nat} {n c : Nat} {A : Option Addr} {w : World} {i : Int} (c1 c2 : Value) (q0 : w.cell? ⟨g0, 0, none⟩ = some (.slice A n c)) (hi : i < 0 ∨ (n : Int) ≤ i) :
    Calls Try.prog 34 #[.pointer (some ⟨g0, 0, none⟩), .int .i64 i, .func (.func 35) #[] #[c1, c2]] w fun e w' => e = .returned (.int .i64 17) ∧ w = w' := by
  by_cases h0 : i < 0
  · clear hi
    go_enter Try.func34, Try.ntmps34
    go_wp2
    go_ret
    exact ⟨rfl, rfl⟩
  · have hi : (n : Int) ≤ i := by omega
    go_enter Try.func34, Try.ntmps34
    go_wp2
    go_ret
    exact ⟨rfl, rfl⟩

set_option maxHeartbeats 1000000 in
theorem withDouble_in {M : Nat → Prop} {g0 k : Nat} {L : List Let} {A : Option Addr} {c : Nat} {xs : List Value} {w : World} {R : Nat → World → Prop} (c1 : Value) (hn : NetAt w M g0 L A c xs) (hk : k < L.length) (hL : L.length ≤ 1000000)
    (hc : ∀ b, A = some ⟨b, 0, none⟩ → Calls Try.prog 41 #[.pointer (some ⟨b, k * 3, none⟩), c1] w (Errs R)) :
    Calls Try.prog 34 #[.pointer (some ⟨g0, 0, none⟩), .int .i64 (k : Int), .func (.func 41) #[] #[c1]] w (Errs R) := by
  obtain ⟨b, B, d, hA, -⟩ := net_row hn hk
  have HC := Lib.hid (hc b hA)
  have q0 := hn.1
  subst hA
  clear hc hn
  go_enter Try.func34, Try.ntmps34
  go_wp2_with fail
  ((with_reducible refine HC.out.mono ?_); rintro e w4 ⟨n, rfl, hr⟩)
  have HR := Lib.hid hr
  clear hr
  go_wp2
  go_ret
  exact ⟨n, rfl, HR.out⟩
set_option maxHeartbeats 1000000 in
theorem withDouble_out {g0 : Nat} {n c : Nat} {A : Option Addr} {w : World} {i : Int} (c1 : Value) (q0 : w.cell? ⟨g0, 0, none⟩ = some (.slice A n c)) (hi : i < 0 ∨ (n : Int) ≤ i) :
    Calls Try.prog 34 #[.pointer (some ⟨g0, 0, none⟩), .int .i64 i, .func (.func 41) #[] #[c1]] w fun e w' => e = .returned (.int .i64 17) ∧ w = w' := by
  by_cases h0 : i < 0
  · clear hi
    go_enter Try.func34, Try.ntmps34
    go_wp2
    go_ret
    exact ⟨rfl, rfl⟩
  · have hi : (n : Int) ≤ i := by omega
    go_enter Try.func34, Try.ntmps34
    go_wp2
    go_ret
    exact ⟨rfl, rfl⟩

set_option maxHeartbeats 1000000 in
theorem withSpoil_in {M : Nat → Prop} {g0 k : Nat} {L : List Let} {A : Option Addr} {c : Nat} {xs : List Value} {w : World} {R : Nat → World → Prop} (c1 c2 : Value) (hn : NetAt w M g0 L A c xs) (hk : k < L.length) (hL : L.length ≤ 1000000)
    (hc : ∀ b, A = some ⟨b, 0, none⟩ → Calls Try.prog 42 #[.pointer (some ⟨b, k * 3, none⟩), c1, c2] w (Errs R)) :
    Calls Try.prog 34 #[.pointer (some ⟨g0, 0, none⟩), .int .i64 (k : Int), .func (.func 42) #[] #[c1, c2]] w (Errs R) := by
  obtain ⟨b, B, d, hA, -⟩ := net_row hn hk
  have HC := Lib.hid (hc b hA)
  have q0 := hn.1
  subst hA
  clear hc hn
  go_enter Try.func34, Try.ntmps34
  go_wp2_with fail
  ((with_reducible refine HC.out.mono ?_); rintro e w4 ⟨n, rfl, hr⟩)
  have HR := Lib.hid hr
  clear hr
  go_wp2
  go_ret
  exact ⟨n, rfl, HR.out⟩
set_option maxHeartbeats 1000000 in
theorem withSpoil_out {g0 : Nat} {n c : Nat} {A : Option Addr} {w : World} {i : Int} (c1 c2 : Value) (q0 : w.cell? ⟨g0, 0, none⟩ = some (.slice A n c)) (hi : i < 0 ∨ (n : Int) ≤ i) :
    Calls Try.prog 34 #[.pointer (some ⟨g0, 0, none⟩), .int .i64 i, .func (.func 42) #[] #[c1, c2]] w fun e w' => e = .returned (.int .i64 17) ∧ w = w' := by
  by_cases h0 : i < 0
  · clear hi
    go_enter Try.func34, Try.ntmps34
    go_wp2
    go_ret
    exact ⟨rfl, rfl⟩
  · have hi : (n : Int) ≤ i := by omega
    go_enter Try.func34, Try.ntmps34
    go_wp2
    go_ret
    exact ⟨rfl, rfl⟩

set_option maxHeartbeats 1000000 in
theorem withAt_in {M : Nat → Prop} {g0 k : Nat} {L : List Let} {A : Option Addr} {c : Nat} {xs : List Value} {w : World} {R : Nat → World → Prop} (c1 : Value) (hn : NetAt w M g0 L A c xs) (hk : k < L.length) (hL : L.length ≤ 1000000)
    (hc : ∀ b, A = some ⟨b, 0, none⟩ → Calls Try.prog 44 #[.pointer (some ⟨b, k * 3, none⟩), c1] w (Errs R)) :
    Calls Try.prog 34 #[.pointer (some ⟨g0, 0, none⟩), .int .i64 (k : Int), .func (.func 44) #[] #[c1]] w (Errs R) := by
  obtain ⟨b, B, d, hA, -⟩ := net_row hn hk
  have HC := Lib.hid (hc b hA)
  have q0 := hn.1
  subst hA
  clear hc hn
  go_enter Try.func34, Try.ntmps34
  go_wp2_with fail
  ((with_reducible refine HC.out.mono ?_); rintro e w4 ⟨n, rfl, hr⟩)
  have HR := Lib.hid hr
  clear hr
  go_wp2
  go_ret
  exact ⟨n, rfl, HR.out⟩
set_option maxHeartbeats 1000000 in
theorem withAt_out {g0 : Nat} {n c : Nat} {A : Option Addr} {w : World} {i : Int} (c1 : Value) (q0 : w.cell? ⟨g0, 0, none⟩ = some (.slice A n c)) (hi : i < 0 ∨ (n : Int) ≤ i) :
    Calls Try.prog 34 #[.pointer (some ⟨g0, 0, none⟩), .int .i64 i, .func (.func 44) #[] #[c1]] w fun e w' => e = .returned (.int .i64 17) ∧ w = w' := by
  by_cases h0 : i < 0
  · clear hi
    go_enter Try.func34, Try.ntmps34
    go_wp2
    go_ret
    exact ⟨rfl, rfl⟩
  · have hi : (n : Int) ≤ i := by omega
    go_enter Try.func34, Try.ntmps34
    go_wp2
    go_ret
    exact ⟨rfl, rfl⟩

set_option maxRecDepth 100000 in
set_option maxHeartbeats 4000000 in
theorem double_in (M : Nat → Prop) (g0 k : Nat) (L : List Let) (w : World) (h : NetO w M g0 L) (hk : k < L.length) (hL : L.length ≤ 1000000) :
    Calls Try.prog 18 #[.pointer (some ⟨g0, 0, none⟩), .int .i64 (k : Int)] w (NetDid w M g0 (L ++ [L[k]]) 0) := by
  obtain ⟨A, c, xs, hn⟩ := h
  obtain ⟨w1, hw1⟩ : ∃ w1, w.alloc (.cells #[.pointer (some ⟨g0, 0, none⟩)] 24) = w1 := ⟨_, rfl⟩
  have b1 : Below w.heap.size w w1 := by rw [← hw1]; exact (Below.refl _ w).alloc (Nat.le_refl _) _
  have z1 : w1.heap.size = w.heap.size + 1 := by rw [← hw1]; simp
  have hbx : w1.cell? ⟨w.heap.size, 0, none⟩ = some (.pointer (some ⟨g0, 0, none⟩)) := by
    rw [← hw1, cell_of_row _ _ 0 _ _ (0, 0) (heap_alloc_new w _)]; rfl
  have hn1 : NetAt w1 M g0 L A c xs := hn.below b1
  have HC := Lib.hid (withDouble_in (R := fun n w' => n = 0 ∧ NetO w' (Plus M w1 w') g0 (L ++ [L[k]]) ∧ Only M w1 w') (.pointer (some ⟨w.heap.size, 0, none⟩)) hn1 hk hL fun b hA => double1_any M g0 w.heap.size k L A c xs b w1 hA hn1 hk hL hbx (fun hm => by have := hn.2.2.2.2.2.2.2 _ hm; omega))
  have HF := Lib.hid fun w' (h1 : NetO w' (Plus M w1 w') g0 (L ++ [L[k]])) (h2 : Only M w1 w') => net_wider hn b1 h1 h2
  have HW := Lib.hid hw1
  clear hw1 hbx hn1 hn
  go_enter Try.func18, Try.ntmps18
  go_wp2_with fail
  rw [HW.out]
  ((with_reducible refine HC.out.mono ?_); rintro e w4 ⟨n, rfl, rfl, h1, h2⟩)
  have HN := Lib.hid (HF.out w4 h1 h2)
  clear h1 h2
  go_wp2
  go_ret
  exact ⟨rfl, HN.out⟩
end Go.Proofs.Ytponmokiogdejaa
