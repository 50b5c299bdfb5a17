import Derived.Test.YtponmokiogdejaaCrcMore
import Derived.Test.YtponmokiogdejaaSlices
namespace Go.Proofs.Ytponmokiogdejaa
open Go.RowKit Crc

theorem u8_shift {s : Nat} (h : s < 4294967296) :
    [(.int .u8 ((s : Int) % 256) : Value), .int .u8 ((s : Int) / 256 % 256), .int .u8 ((s : Int) / 65536 % 256), .int .u8 ((s : Int) / 16777216)] = (le s).map u8v := by
  have e0 := u8_of s
  have e1 := u8_of (s / 256)
  have e2 := u8_of (s / 65536)
  have e3 := u8_of (s / 16777216)
  have e4 : (s : Int) / 16777216 = ((s / 16777216 : Nat) : Int) % 256 := by omega
  simp only [le, List.map_cons, List.map_nil, ← e0, ← e1, ← e2, ← e3, e4]
  simp

set_option maxHeartbeats 1000000 in
theorem seal_any (A : Option Addr) (c B : Nat) (l : List UInt8) (w : World) (h1 : At w B 1 A l.length (l.map u8v)) (hB : B ≤ w.heap.size) (hm : l.length + 4 ≤ 140737488355328) :
    Calls Try.prog 48 #[.slice A l.length c] w (MadeB w (seal_ l)) := by
  obtain ⟨i0, hi, hz0, hz1, hz2⟩ := info_parts info_u8
  have hsl := sum_lt l
  have c1 := sum_any A c B l w h1 hB (by omega)
  go_enter Try.func48, Try.ntmps48
  go_wp2_with (first
    | (go_at_call 52; refine c1.mono ?_; rintro e w1 ⟨rfl, hb⟩)
    | (refine wpList_make_own _ rfl _ _ 34 rfl w.heap.size 5 i0 (.int .u8 0) 1 Try.underlying34 hi hz0 hz1 .i64 .i64 _ (l.length + 4) rfl rfl (by omega) (by rw [hz2]; omega) (by unfold maxLen; omega) hb.size ?_; intro w2 hown2 hg2; have hb2 := hb.grown hg2 hb.size (fun k e => by cases e))
    | (at_builtin; refine wpList_append_from _ rfl (.tmp 10) (.tmp 11) 34 rfl w.heap.size 5 i0 (.int .u8 0) 1 1 Try.underlying34 hi hz0 hz1 hz2 rfl (by decide) _ 0 [] rfl hown2 B A l.length c (l.map u8v) rfl (h1.below hb2 hB) (one_u8 l) (by unfold maxLen; omega) (by omega) hb2.size ?_; intro v3 w3 hown3 hg3 _; have hb3 := hb2.trans (grown_below hown2 hg3 hb2.size); simp only [Nat.zero_add, List.nil_append] at hown3)
    | (at_builtin; refine wpList_append_from _ rfl (.tmp 13) (.tmp 25) 34 rfl w.heap.size 5 i0 (.int .u8 0) 1 1 Try.underlying34 hi hz0 hz1 hz2 rfl (by decide) _ l.length _ rfl (hown3.alloc _) (w3.heap.size + 1) (some ⟨w3.heap.size, 0, none⟩) 4 4 _ rfl (At.new w3 _ 5 1 4 rfl) (by simp [Value.oneCell']) (by unfold maxLen; omega) (by omega) (by simp; have := hb3.size; omega) ?_; intro v4 w4 hown4 hg4 _))
  have hb4 := (hb3.alloc hb3.size _).trans (grown_below (hown3.alloc _) hg4 (by simp; have := hb3.size; omega))
  rw [u8_shift hsl, ← List.map_append] at hown4
  have ho : w4.ownsRow w.heap.size 5 1 v4 (seal_ l).length ((seal_ l).map u8v) := by rw [seal_len]; exact hown4
  go_ret
  exact ⟨_, rfl, ho, hb4⟩
end Go.Proofs.Ytponmokiogdejaa
