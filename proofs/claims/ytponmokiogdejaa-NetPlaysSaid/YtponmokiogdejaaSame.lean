import Derived.Test.YtponmokiogdejaaWords
namespace Go.Proofs.Ytponmokiogdejaa
open Go.RowKit

theorem take_eq_succ {l1 l2 : List UInt8} {k : Nat} (h : l1.take k = l2.take k) (h1 : k < l1.length) (h2 : k < l2.length) (e : (l1[k]'h1).toNat = (l2[k]'h2).toNat) : l1.take (k + 1) = l2.take (k + 1) := by
  have e' : l1[k]'h1 = l2[k]'h2 := UInt8.toNat_inj.1 e
  rw [List.take_succ_eq_append_getElem h1, List.take_succ_eq_append_getElem h2, h, e']
theorem ne_of_get {l1 l2 : List UInt8} {k : Nat} (h1 : k < l1.length) (h2 : k < l2.length) (e : ¬ (l1[k]'h1).toNat = (l2[k]'h2).toNat) : (l1 == l2) = false := by
  rw [beq_eq_false_iff_ne]
  rintro rfl
  exact e rfl

end Go.Proofs.Ytponmokiogdejaa
