import Derived.Test.YtponmokiogdejaaNetSame
namespace Go.Proofs.Ytponmokiogdejaa
open Go.RowKit
set_option linter.unusedSimpArgs false
set_option linter.unusedVariables false

/-- A net that was made in the walk that began at w. -/
def St (b : Nat) (w : World) (g0 : Nat) (L : List Let) (W : World) : Prop := ∃ M : Nat → Prop, NetO W M g0 L ∧ Below b w W ∧ ∀ k, M k → b ≤ k
theorem St.bel {b : Nat} {w : World} {g0 : Nat} {L : List Let} {W : World} (h : St b w g0 L W) : Below b w W := h.choose_spec.2.1
theorem St.then {b : Nat} {w : World} {g0 : Nat} {L : List Let} {W W' : World} (h : St b w g0 L W) (hb : Below W.heap.size W W') (hs : b ≤ w.heap.size) : St b w g0 L W' := by
  obtain ⟨M, h1, h2, h3⟩ := h
  exact ⟨M, h1.below hb, h2.trans (hb.mono (by have := h2.size; omega)), h3⟩
theorem st_did {b : Nat} {w : World} {g0 : Nat} {L : List Let} {W W' : World} {M : Nat → Prop} (h2 : Below b w W) (h3 : ∀ k, M k → b ≤ k) (hs : b ≤ w.heap.size) (d1 : NetO W' (Plus M W W') g0 L) (d2 : Only M W W') : St b w g0 L W' := by
  have s := h2.size
  refine ⟨Plus M W W', d1, h2.trans (d2.below (by omega) h3), fun k hk => ?_⟩
  rcases hk with hk | hk
  · exact h3 k hk
  · omega
theorem st_new {w : World} : St w.heap.size w w.heap.size [] (w.alloc (.cells #[.slice none 0 0] 27)) := by
  have o1 : (w.alloc (.cells #[.slice none 0 0] 27)).heap[w.heap.size]? = some (.cells #[.slice none 0 0] 27 (0, 0)) := heap_alloc_new w _
  refine ⟨fun k => k = w.heap.size, ⟨none, 0, [], ?_, frozen_of_row _ _ 0 _ _ o1, ⟨by simp, .inl ⟨rfl, rfl⟩⟩, RowsO.nil 3 _, rfl, by simp, fun k hk => by simp [Value.ownBlock] at hk, fun k hk => by rw [show k = w.heap.size from hk]; simp⟩, (Below.refl _ w).alloc (Nat.le_refl _) _, fun k hk => by omega⟩
  rw [cell_of_row _ _ 0 _ _ (0, 0) o1]; rfl

def DidSt (b : Nat) (w : World) (g0 : Nat) (L : List Let) (n : Nat) (e : Ending) (w' : World) : Prop := e = .returned (.int .i64 (n : Int)) ∧ St b w g0 L w'
theorem send_st {b : Nat} {w W : World} {g0 : Nat} {L : List Let} (h : St b w g0 L W) (hs : b ≤ w.heap.size) (tw : Nat) (l : List UInt8) (B : Option Addr) (d : Nat) (hL : L.length ≤ 1000000) (h1 : At W W.heap.size 1 B l.length (l.map u8v)) (hm : l.length ≤ 140737488355328) (hto : tw < 18446744073709551616) :
    Calls Try.prog 14 #[.pointer (some ⟨g0, 0, none⟩), .int .u64 (tw : Int), .slice B l.length d] W (DidSt b w g0 (L ++ [⟨tw, l, false⟩]) 0) := by
  obtain ⟨M, h4, h2, h3⟩ := h
  exact (send_any M g0 L tw l B d W h4 hL h1 hm hto).mono fun e w' ⟨he, d1, d2⟩ => ⟨he, st_did h2 h3 hs d1 d2⟩
theorem double_st {b : Nat} {w W : World} {g0 : Nat} {L : List Let} (h : St b w g0 L W) (hs : b ≤ w.heap.size) (k : Nat) (hk : k < L.length) (hL : L.length ≤ 1000000) :
    Calls Try.prog 18 #[.pointer (some ⟨g0, 0, none⟩), .int .i64 (k : Int)] W (DidSt b w g0 (L ++ [L[k]]) 0) := by
  obtain ⟨M, h4, h2, h3⟩ := h
  exact (double_in M g0 k L W h4 hk hL).mono fun e w' ⟨he, d1, d2⟩ => ⟨he, st_did h2 h3 hs d1 d2⟩
theorem spoil_st {b : Nat} {w W : World} {g0 : Nat} {L : List Let} (h : St b w g0 L W) (hs : b ≤ w.heap.size) (k : Nat) (hk : k < L.length) (hL : L.length ≤ 1000000) (a : Int) (m : UInt8) (ha1 : -9223372036854775808 ≤ a) (ha2 : a ≤ 9223372036854775807) :
    Calls Try.prog 19 #[.pointer (some ⟨g0, 0, none⟩), .int .i64 (k : Int), .int .i64 a, u8v m] W (DidSt b w g0 (L.set k (spoilX L[k] a m).1) (spoilX L[k] a m).2) := by
  obtain ⟨M, h4, h2, h3⟩ := h
  exact (netSpoil_in M g0 k L a m W h4 hk hL ha1 ha2).mono fun e w' ⟨he, d1, d2⟩ => ⟨he, st_did h2 h3 hs d1 d2⟩
theorem drop_st {b : Nat} {w W : World} {g0 : Nat} {L : List Let} (h : St b w g0 L W) (hs : b ≤ w.heap.size) (k : Nat) (hk : k < L.length) (hL : L.length ≤ 1000000) :
    Calls Try.prog 15 #[.pointer (some ⟨g0, 0, none⟩), .int .i64 (k : Int)] W (DidSt b w g0 (L.eraseIdx k) 0) := by
  obtain ⟨M, h4, h2, h3⟩ := h
  exact (drop_in M g0 k L W h4 hk hL).mono fun e w' ⟨he, d1, d2⟩ => ⟨he, st_did h2 h3 hs d1 d2⟩
theorem at_st {b : Nat} {w W : World} {g0 : Nat} {L : List Let} (h : St b w g0 L W) (hs : b ≤ w.heap.size) (k : Nat) (hk : k < L.length) (hL : L.length ≤ 1000000) :
    Calls Try.prog 20 #[.pointer (some ⟨g0, 0, none⟩), .int .i64 (k : Int)] W (AnsLet W L[k] 0) := at_in _ g0 k L W h.choose_spec.1 hk hL
set_option maxHeartbeats 1000000 in
theorem len_st {b : Nat} {w W : World} {g0 : Nat} {L : List Let} (h : St b w g0 L W) :
    Calls Try.prog 26 #[.pointer (some ⟨g0, 0, none⟩)] W fun e w' => e = .returned (.int .i64 (L.length : Int)) ∧ w' = W := by
  obtain ⟨M, ⟨A, c, xs, hn⟩, h2, h3⟩ := h
  have q0 := hn.1
  clear hn h2 h3
  go_enter Try.func26, Try.ntmps26
  go_wp2
  go_ret
  exact ⟨rfl, rfl⟩

def x1 : Let := ⟨0, [1, 2, 3], false⟩
def x2 : Let := ⟨0, [1, 2, 252], true⟩
theorem spoil_x1 : spoilX x1 2 255 = (x2, 0) := by rfl
theorem spoil_x2 : spoilX x2 0 1 = (x2, 13) := by rfl

set_option maxRecDepth 100000 in
set_option maxHeartbeats 4000000 in
theorem nknown_any (w : World) : Calls Try.prog 9 #[] w fun e w' => e = .returned (.bool true) ∧ Below w.heap.size w w' := by
  have C1 := Lib.hid fun (W : World) (h : St w.heap.size w w.heap.size [] W) (A : Option Addr) (hA : At W W.heap.size 1 A 3 ([1, 2, 3].map u8v)) =>
    (show Calls Try.prog 14 #[.pointer (some ⟨w.heap.size, 0, none⟩), .int .u64 0, .slice A 3 3] W (DidSt w.heap.size w w.heap.size [x1] 0) from send_st h (Nat.le_refl _) 0 [1, 2, 3] A 3 (by simp) hA (by simp) (by omega))
  have C2 := Lib.hid fun (W : World) (h : St w.heap.size w w.heap.size [x1] W) =>
    (show Calls Try.prog 18 #[.pointer (some ⟨w.heap.size, 0, none⟩), .int .i64 0] W (DidSt w.heap.size w w.heap.size [x1, x1] 0) from double_st h (Nat.le_refl _) 0 (by simp) (by simp))
  have C3 := Lib.hid fun (W : World) (h : St w.heap.size w w.heap.size [x1, x1] W) =>
    (show Calls Try.prog 19 #[.pointer (some ⟨w.heap.size, 0, none⟩), .int .i64 0, .int .i64 2, .int .u8 255] W (DidSt w.heap.size w w.heap.size [x2, x1] 0) from by
      have h := spoil_st h (Nat.le_refl _) 0 (by simp) (by simp) 2 255 (by omega) (by omega)
      rw [show [x1, x1][0] = x1 from rfl, spoil_x1] at h
      exact h)
  have C4 := Lib.hid fun (W : World) (h : St w.heap.size w w.heap.size [x2, x1] W) =>
    (show Calls Try.prog 15 #[.pointer (some ⟨w.heap.size, 0, none⟩), .int .i64 1] W (DidSt w.heap.size w w.heap.size [x2] 0) from drop_st h (Nat.le_refl _) 1 (by simp) (by simp))
  have C5 := Lib.hid fun (W : World) (h : St w.heap.size w w.heap.size [x2] W) =>
    (show Calls Try.prog 20 #[.pointer (some ⟨w.heap.size, 0, none⟩), .int .i64 0] W (AnsLet W x2 0) from at_st h (Nat.le_refl _) 0 (by simp) (by simp))
  have C6 := Lib.hid fun (W : World) (h : St w.heap.size w w.heap.size [x2] W) =>
    (show Calls Try.prog 26 #[.pointer (some ⟨w.heap.size, 0, none⟩)] W (fun e w' => e = .returned (.int .i64 1) ∧ w' = W) from len_st h)
  have C7 := Lib.hid fun (W : World) (h : St w.heap.size w w.heap.size [x2] W) =>
    (show Calls Try.prog 19 #[.pointer (some ⟨w.heap.size, 0, none⟩), .int .i64 0, .int .i64 0, .int .u8 1] W (DidSt w.heap.size w w.heap.size [x2] 13) from by
      have h := spoil_st h (Nat.le_refl _) 0 (by simp) (by simp) 0 1 (by omega) (by omega)
      rw [show [x2][0] = x2 from rfl, spoil_x2] at h
      exact h)
  obtain ⟨wa, hwa⟩ : ∃ wa, w.alloc (.cells #[.slice none 0 0] 27) = wa := ⟨_, rfl⟩
  have s0 : St w.heap.size w w.heap.size [] wa := by rw [← hwa]; exact st_new
  have HW := Lib.hid hwa
  go_enter Try.func9, Try.ntmps9
  go_upto_region 2 with fail
  clear hwa HW
  go_wp2_with fail
  have t1 : St w.heap.size w w.heap.size [] (wa.alloc (.cells #[.int .u8 1, .int .u8 2, .int .u8 3] 5)) := s0.then ((Below.refl _ wa).alloc (Nat.le_refl _) _) (Nat.le_refl _)
  ((with_reducible refine (C1.out _ t1 (some ⟨wa.heap.size, 0, none⟩) ?_).mono ?_))
  · exact (At.new wa ([1, 2, 3].map u8v) 5 1 3 rfl).more (by simp)
  rintro e w1 ⟨rfl, s1⟩
  clear s0 t1
  go_wp2_with fail
  ((with_reducible refine (C2.out _ s1).mono ?_); rintro e w2 ⟨rfl, s2⟩)
  clear s1
  go_wp2_with fail
  ((with_reducible refine (C3.out _ s2).mono ?_); rintro e w3 ⟨rfl, s3⟩)
  clear s2
  go_wp2_with fail
  ((with_reducible refine (C4.out _ s3).mono ?_); rintro e w4 ⟨rfl, s4⟩)
  clear s3
  go_wp2_with fail
  ((with_reducible refine (C5.out _ s4).mono ?_); rintro e w5 ⟨A5, c5, rfl, hx5, hc5, b5⟩)
  have s5 := s4.then b5 (Nat.le_refl _)
  have h5 := hx5.at
  clear s4 hx5 hc5 b5 C1 C2 C3 C4 C5
  go_wp2_with fail
  obtain ⟨wb, hwb⟩ : ∃ wb, w5.alloc (.cells #[.int .u64 (x2.to : Int), .slice A5 x2.fr.length c5, .bool x2.sp] 47) = wb := ⟨_, rfl⟩
  have zb : wb.heap.size = w5.heap.size + 1 := by rw [← hwb]; simp
  have bb : Below w5.heap.size w5 (wb.alloc (.cells #[.int .u8 1, .int .u8 2, .int .u8 252] 5)) := by rw [← hwb]; exact ((Below.refl _ w5).alloc (Nat.le_refl _) _).alloc (by simp) _
  have s6 := s5.then bb (Nat.le_refl _)
  have c8 : Calls Try.prog 22 #[.agg #[.int .u64 (x2.to : Int), .slice A5 x2.fr.length c5, .bool x2.sp], .agg #[.int .u64 0, .slice (some ⟨w5.heap.size + 1, 0, none⟩) 3 3, .bool true]] (wb.alloc (.cells #[.int .u8 1, .int .u8 2, .int .u8 252] 5)) _ :=
    sameLetter_any x2 A5 (some ⟨w5.heap.size + 1, 0, none⟩) c5 3 _ (h5.then bb) (by rw [← zb]; exact (At.new wb ([1, 2, 252].map u8v) 5 1 3 rfl).more (by simp))
  rw [hwb]
  ((with_reducible refine c8.mono ?_); rintro e w6 ⟨rfl, b6⟩)
  have s7 := s6.then b6 (Nat.le_refl _)
  clear s5 s6 c8 h5 b6 bb
  go_wp2_with fail
  ((with_reducible refine (C6.out _ s7).mono ?_); rintro e w7 ⟨rfl, rfl⟩)
  go_wp2_with fail
  ((with_reducible refine (C7.out _ s7).mono ?_); rintro e w8 ⟨rfl, s8⟩)
  have HB := Lib.hid s8.bel
  clear s7 s8
  go_wp2
  go_ret
  exact ⟨rfl, HB.out⟩
end Go.Proofs.Ytponmokiogdejaa
