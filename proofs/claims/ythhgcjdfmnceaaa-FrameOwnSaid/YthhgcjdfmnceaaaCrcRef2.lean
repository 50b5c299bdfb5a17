import Derived.Test.YthhgcjdfmnceaaaCrcRef
namespace Go.Proofs.Ythhgcjdfmnceaaa
open Go.RowKit Crc

theorem info_u8 : (Try.prog.info? 5).map (fun i => (i.zero, i.size, i.bytes)) = some (some (.int .u8 0), 1, 1) := by kernel_rfl
theorem one_u8 (l : List UInt8) : ∀ u ∈ l.map u8v, u.oneCell' = true := by
  intro u hu
  obtain ⟨_, _, rfl⟩ := List.mem_map.1 hu
  rfl
/-- The call answers bytes in memory of its own. -/
def MadeB (w : World) (l : List UInt8) (e : Ending) (w' : World) : Prop := ∃ v, e = .returned v ∧ w'.ownsRow w.heap.size 5 1 v l.length (l.map u8v) ∧ Below w.heap.size w w'

set_option maxHeartbeats 400000 in
theorem own_any (A : Option Addr) (c B : Nat) (l : List UInt8) (w : World) (h1 : At w B 1 A l.length (l.map u8v)) (hm : l.length ≤ 140737488355328) :
    Calls Try.prog 11 #[.slice A l.length c] w (MadeB w l) := by
  obtain ⟨i0, hi, hz0, hz1, hz2⟩ := info_parts info_u8
  go_enter Try.func11, Try.ntmps11
  go_wp2_with (at_builtin; refine wpList_append_from _ rfl _ _ 22 rfl w.heap.size 5 i0 (.int .u8 0) 1 1 Try.underlying22 hi hz0 hz1 hz2 rfl (by decide) (.slice none 0 0) 0 [] rfl (World.ownsRow_nil _ _ _ _) B A l.length c (l.map u8v) rfl h1 (one_u8 l) (by unfold maxLen; omega) (by omega) (Nat.le_refl _) ?_; intro v' w1 hown hg _)
  simp only [Nat.zero_add, List.nil_append] at hown
  have hb : Below w.heap.size w w1 := grown_below (World.ownsRow_nil w w.heap.size 5 1) hg (Nat.le_refl _)
  go_ret
  exact ⟨_, rfl, hown, hb⟩

theorem le_get (s k : Nat) (h : k < 4) : (le s)[k]? = some (UInt8.ofNat (s / 256 ^ k % 256)) := by
  match k, h with
  | 0, _ => simp [le]
  | 1, _ => simp [le]
  | 2, _ => simp [le]
  | 3, _ => simp [le]
theorem le_len (s : Nat) : (le s).length = 4 := rfl
theorem seal_len (l : List UInt8) : (seal_ l).length = l.length + 4 := by simp [seal_, le_len]
theorem le_take_succ (s k : Nat) (h : k < 4) : (le s).take (k + 1) = (le s).take k ++ [UInt8.ofNat (s / 256 ^ k % 256)] := by
  have hk : k < (le s).length := by rw [le_len]; exact h
  have h2 := le_get s k h
  rw [List.getElem?_eq_getElem hk] at h2
  rw [List.take_succ_eq_append_getElem hk]
  injection h2 with h2
  rw [h2]
theorem u8_of (x : Nat) : (.int .u8 ((x : Int) % 256) : Value) = u8v (UInt8.ofNat (x % 256)) := by
  unfold u8v
  rw [UInt8.toNat_ofNat']
  congr 1
  omega

set_option maxHeartbeats 1000000 in
theorem refSeal_any (A : Option Addr) (c B : Nat) (l : List UInt8) (w : World) (h1 : At w B 1 A l.length (l.map u8v)) (hB : B ≤ w.heap.size) (hm : l.length + 4 ≤ 140737488355328) :
    Calls Try.prog 24 #[.slice A l.length c] w (MadeB w (seal_ l)) := by
  obtain ⟨i0, hi, hz0, hz1, hz2⟩ := info_parts info_u8
  have hsl := sum_lt l
  go_enter Try.func24, Try.ntmps24
  go_wp2_with (at_builtin; refine wpList_append_from _ rfl _ _ 22 rfl w.heap.size 5 i0 (.int .u8 0) 1 1 Try.underlying22 hi hz0 hz1 hz2 rfl (by decide) (.slice none 0 0) 0 [] rfl (World.ownsRow_nil _ _ _ _) B A l.length c (l.map u8v) rfl h1 (one_u8 l) (by unfold maxLen; omega) (by omega) (Nat.le_refl _) ?_; intro v' w1 hown hg _)
  simp only [Nat.zero_add, List.nil_append] at hown
  have hb : Below w.heap.size w w1 := grown_below (World.ownsRow_nil w w.heap.size 5 1) hg (Nat.le_refl _)
  clear hg
  have c1 := refSum_any A c B l w1 (h1.below hb hB) (by omega)
  go_wp2_with (go_at_call 33; refine c1.mono ?_; rintro e w' ⟨rfl, rfl⟩)
  clear c1
  go_loopw [3, 4, 5] (fun v s i wr => ∃ (k x : Nat), k ≤ 4 ∧ i = .int .i64 k ∧ x < 4294967296 ∧ s = .int .u32 (x : Int) ∧ Hid (x = sum l / 256 ^ k) ∧
      wr.ownsRow w.heap.size 5 1 v (l.length + k) ((l ++ (le (sum l)).take k).map u8v) ∧ Below w.heap.size w wr) (fun _ _ i _ => 4 - (intOf i).toNat)
  case atStart => exact ⟨0, sum l, by omega, rfl, hsl, rfl, by simp [Hid], by simpa using hown, hb⟩
  case round =>
    obtain ⟨k, x, hk, rfl, hx, rfl, HX, hown2, hb2⟩ := hrel
    by_cases hlt : k < 4
    · have HU : Hid ((.int .u8 ((x : Int) % 256) : Value) = u8v (UInt8.ofNat (sum l / 256 ^ k % 256))) := by rw [← HX.out]; exact u8_of x
      have hsz := hb2.size
      go_wp2_with (at_builtin; refine wpList_append_from _ rfl _ _ 22 rfl w.heap.size 5 i0 (.int .u8 0) 1 1 Try.underlying22 hi hz0 hz1 hz2 rfl (by decide) _ (l.length + k) _ rfl (hown2.alloc _) (wr.heap.size + 1) (some ⟨wr.heap.size, 0, none⟩) 1 1 [.int .u8 ((x : Int) % 256)] rfl (At.new wr [.int .u8 ((x : Int) % 256)] 5 1 1 rfl) (by simp [Value.oneCell']) (by unfold maxLen; omega) (by omega) (by simp; omega) ?_; intro v3 w3 hown3 hg3 _)
      have hb3 := (hb2.alloc hb2.size _).trans (grown_below (hown2.alloc _) hg3 (by simp; omega))
      have HN : Hid (x / 256 = sum l / 256 ^ (k + 1)) := by rw [HX.out, Nat.pow_succ, Nat.div_div_eq_div_mul]; rfl
      rw [HU.out] at hown3
      have ho : w3.ownsRow w.heap.size 5 1 v3 (l.length + (k + 1)) ((l ++ (le (sum l)).take (k + 1)).map u8v) := by
        rw [le_take_succ _ _ hlt, ← List.append_assoc, List.map_append]
        exact hown3
      clear hown3 hg3 hown2 HX HU
      go_wp2
      go_roundw
      case rel => exact ⟨k + 1, x / 256, by omega, by go_num, by omega, by go_num, HN, ho, hb3⟩
      case measure => simp [intOf]; omega
    · obtain rfl : k = 4 := by omega
      have ho : wr.ownsRow w.heap.size 5 1 u3 (seal_ l).length ((seal_ l).map u8v) := by rw [seal_len]; exact hown2
      clear HX hown2
      go_wp2
      go_ret
      exact ⟨_, rfl, ho, hb2⟩
end Go.Proofs.Ythhgcjdfmnceaaa
