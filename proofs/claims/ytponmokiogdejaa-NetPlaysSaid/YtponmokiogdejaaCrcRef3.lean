import Derived.Test.YtponmokiogdejaaCrcRef2
namespace Go.Proofs.Ytponmokiogdejaa
open Go.RowKit Crc

/-- What was sealed, if it was. -/
def OpenB (A : Option Addr) (c : Nat) (l : List UInt8) (w : World) (e : Ending) (w' : World) : Prop :=
  e = .returned (.tuple #[if sealed l then .slice A (l.length - 4) c else .slice none 0 0, .bool (sealed l)]) ∧ Below w.heap.size w w'

end Go.Proofs.Ytponmokiogdejaa
