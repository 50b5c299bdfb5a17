import Derived.Test.YtponmokiogdejaaFrameRead
namespace Go.Proofs.Ytponmokiogdejaa
open Go.RowKit Crc

/-- What opening a frame answers: in memory of its own. -/
def OpenO (w : World) (p : UInt8 × List UInt8 × Nat) (e : Ending) (w' : World) : Prop :=
  ∃ A c, e = .returned (.tuple #[.int .u8 (p.1.toNat : Int), .slice A p.2.1.length c, .int .i64 (p.2.2 : Nat)]) ∧ Own w' w.heap.size A p.2.1 ∧ p.2.1.length ≤ c ∧ Below w.heap.size w w'
/-- What opening a frame answers. -/
def Open3 (w : World) (p : UInt8 × List UInt8 × Nat) (e : Ending) (w' : World) : Prop :=
  ∃ A c, e = .returned (.tuple #[.int .u8 (p.1.toNat : Int), .slice A p.2.1.length c, .int .i64 (p.2.2 : Nat)]) ∧ At w' w'.heap.size 1 A p.2.1.length (p.2.1.map u8v) ∧ p.2.1.length ≤ c ∧ Below w.heap.size w w'
theorem OpenO.open {w : World} {p : UInt8 × List UInt8 × Nat} {e : Ending} {w' : World} (h : OpenO w p e w') : Open3 w p e w' := by
  obtain ⟨A, c, he, ho, hc, hb⟩ := h
  exact ⟨A, c, he, ho.at, hc, hb⟩

set_option maxHeartbeats 1000000 in
theorem fopen_own (A : Option Addr) (c B : Nat) (l : List UInt8) (w : World) (h1 : At w B 1 A l.length (l.map u8v)) (hB : B ≤ w.heap.size) (hc : l.length ≤ c) (hm : l.length ≤ 140737488355328) :
    Calls Try.prog 21 #[.slice A l.length c] w (OpenO w (openK l)) := by
  have c1 := read_any A c B l w h1 hB hc hm
  obtain ⟨⟨k, b, n⟩, hp⟩ : ∃ p, p = openK l := ⟨_, rfl⟩
  rw [← hp] at c1 ⊢
  unfold Read3 at c1
  have HE : Hid (∀ W' A2 c2, Below w.heap.size w W' → Own W' w.heap.size A2 b → b.length ≤ c2 → OpenO w (k, b, n) (.returned (.tuple #[.int .u8 (k.toNat : Int), .slice A2 b.length c2, .int .i64 (n : Nat)])) W') := fun W' A2 c2 hb hat hc => ⟨A2, c2, rfl, hat, hc, hb⟩
  have HC := Lib.hid c1
  clear c1 hp
  go_enter Try.func21, Try.ntmps21
  go_wp2_with fail
  refine HC.out.mono ?_
  rintro e w1 ⟨A2, c2, rfl, hat, hc2, hb⟩
  clear HC
  have HT := Lib.hid hat
  clear hat
  go_wp2
  go_quiet (fail)
  go_wp2
  go_ret3
  exact HE.out _ A2 c2 (Below.drewN' (hb.alloc hb.size _) _) (HT.out.below (Below.drewN' ((Below.refl _ w1).alloc (Nat.le_refl _) _) _)) hc2

theorem fopen_any (A : Option Addr) (c B : Nat) (l : List UInt8) (w : World) (h1 : At w B 1 A l.length (l.map u8v)) (hB : B ≤ w.heap.size) (hc : l.length ≤ c) (hm : l.length ≤ 140737488355328) :
    Calls Try.prog 21 #[.slice A l.length c] w (Open3 w (openK l)) := (fopen_own A c B l w h1 hB hc hm).mono fun _ _ h => h.open
end Go.Proofs.Ytponmokiogdejaa
