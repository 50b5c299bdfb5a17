import Derived.Test.YtponmokiogdejaaSame
import Derived.Test.YtponmokiogdejaaCrcSpec
namespace Go.Proofs.Ytponmokiogdejaa
open Go.RowKit Crc

theorem ret_u32 {a b : Int} (h : a = b) : Ending.returned (.int .u32 a) = .returned (.int .u32 b) := by rw [h]

theorem bit_yes {r b : Nat} (h : r % 2 = b) : ((r : Int) / 2) = (bit r b : Nat) := by unfold bit; rw [if_pos h]; omega
theorem bit_no {r b : Nat} (hr : r < 4294967296) (h : ¬ r % 2 = b) : bits BinOp.xor IntKind.u32 ((r : Int) / 2) 3988292384 = (bit r b : Nat) := by
  unfold bit
  rw [if_neg h]
  have := u32_xor_nat (r / 2) 3988292384 (by omega) (by omega)
  rw [← this]
  rfl

theorem reg_take_succ (r : Nat) (l : List UInt8) (k : Nat) (h : k < l.length) : reg r (l.take (k + 1)) = stepB (reg r (l.take k)) (l[k]'h).toNat := by
  rw [List.take_succ_eq_append_getElem h, reg_snoc]

end Go.Proofs.Ytponmokiogdejaa
