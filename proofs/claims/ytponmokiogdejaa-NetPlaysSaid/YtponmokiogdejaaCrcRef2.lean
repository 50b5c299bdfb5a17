import Derived.Test.YtponmokiogdejaaCrcRef
namespace Go.Proofs.Ytponmokiogdejaa
open Go.RowKit Crc

theorem info_u8 : (Try.prog.info? 5).map (fun i => (i.zero, i.size, i.bytes)) = some (some (.int .u8 0), 1, 1) := by kernel_rfl
theorem one_u8 (l : List UInt8) : ∀ u ∈ l.map u8v, u.oneCell' = true := by
  intro u hu
  obtain ⟨_, _, rfl⟩ := List.mem_map.1 hu
  rfl
/-- The call answers bytes in memory of its own. -/
def MadeB (w : World) (l : List UInt8) (e : Ending) (w' : World) : Prop := ∃ v, e = .returned v ∧ w'.ownsRow w.heap.size 5 1 v l.length (l.map u8v) ∧ Below w.heap.size w w'

theorem le_get (s k : Nat) (h : k < 4) : (le s)[k]? = some (UInt8.ofNat (s / 256 ^ k % 256)) := by
  match k, h with
  | 0, _ => simp [le]
  | 1, _ => simp [le]
  | 2, _ => simp [le]
  | 3, _ => simp [le]
theorem le_len (s : Nat) : (le s).length = 4 := rfl
theorem seal_len (l : List UInt8) : (seal_ l).length = l.length + 4 := by simp [seal_, le_len]
theorem le_take_succ (s k : Nat) (h : k < 4) : (le s).take (k + 1) = (le s).take k ++ [UInt8.ofNat (s / 256 ^ k % 256)] := by
  have hk : k < (le s).length := by rw [le_len]; exact h
  have h2 := le_get s k h
  rw [List.getElem?_eq_getElem hk] at h2
  rw [List.take_succ_eq_append_getElem hk]
  injection h2 with h2
  rw [h2]
theorem u8_of (x : Nat) : (.int .u8 ((x : Int) % 256) : Value) = u8v (UInt8.ofNat (x % 256)) := by
  unfold u8v
  rw [UInt8.toNat_ofNat']
  congr 1
  omega

end Go.Proofs.Ytponmokiogdejaa
