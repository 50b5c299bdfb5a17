/-
  No cell of these rows narrows 'for every input' (looked for: loops, veiled, ifaces, maps, wideKeys, modest, calm, conditions, laid).
  DERIVED. THE GIVEN ROWS OF THIS SEAT. 6 by the template 'for every input the law returns true; each argument reads behind the call as it read before'; 0 by the template 'total and deterministic' (their statements: YtkdlfgfjahnhmaaTotals.lean).
  GIVEN WITH THE SEED: the statements are not yours to turn. If you find one false, say at which input.
  Laid BY PROGRAM, IN A SANDBOX (cutbox-rows.mjs): the forced cells as the released guide's own fill.sh prints them over the translation 9024c1d2e92ff570… (all of the seat's roots in one cut). By AI agents, Wed Nov 11 2026. No macro, syntax, notation, axiom, sorry.
-/
import Derived.Test.YtkdlfgfjahnhmaaChecked
import GoSem.Claim
import GoSem.ClaimJoined
import GoSem.ClaimMapViews
import Derived.JoinedTies
import Derived.KernelRfl
namespace Go.Proofs.Ytkdlfgfjahnhmaa
/- THE CELL 'sum', in the pinned program and in every row, IS THE sha256 OF THE DUMP (.gsa) THAT YtkdlfgfjahnhmaaProg.lean LOADS. Nothing in Lean hashes anything: it is a label: what it is worth is what the hold of that sum in a sandbox is worth. -/
noncomputable def Try.pinned : Pinned := { name := "ytkdlfgfjahnhmaa", sum := "9024c1d2e92ff5708f91a6776ddf8b5a72b4bbfe4c6473b02fc49db370dd04e5", checked := Try.checked }
namespace Rows
def none {H : Type} : Left H := { results := [], args := [] }

/-- 'commonplacelaw19.LogPlays': WHATEVER THE INPUT: true; the input reads as it did. -/
def logPlaysSpec : ChangeSpec := { name := "logPlays", fn := fun _ => fun
  | [d1, d2] => { results := [.lit (.bool true)], args := [d1, d2] }
  | _ => none }
def logPlaysRow : OpenClaim := { program := "ytkdlfgfjahnhmaa", sum := "9024c1d2e92ff5708f91a6776ddf8b5a72b4bbfe4c6473b02fc49db370dd04e5", func := "commonplace/commonplacelaw19.LogPlays", spec := "logPlays", inPlace := ["slices.overlaps[commonplace/api.Entry]", "slices.overlaps[*commonplace/node.Node]"], unfollowed := true, recurses := true, apart := false }
def LogPlaysSaid : Prop := logPlaysRow.holds Try.pinned (OpenSpec.ofChange logPlaysSpec)

/-- ITS FALSE NEIGHBOUR: 'it returns false'. Refute it at one input. -/
def logPlaysWrong : ChangeSpec := { name := "logPlays", fn := fun _ => fun
  | [d1, d2] => { results := [.lit (.bool false)], args := [d1, d2] }
  | _ => none }
def LogPlaysWrongFalsely : Prop := logPlaysRow.holds Try.pinned (OpenSpec.ofChange logPlaysWrong)

/-- 'commonplacelaw19.LogKeeps': WHATEVER THE INPUT: true; the input reads as it did. -/
def logKeepsSpec : ChangeSpec := { name := "logKeeps", fn := fun _ => fun
  | [d1, d2, d3] => { results := [.lit (.bool true)], args := [d1, d2, d3] }
  | _ => none }
def logKeepsRow : OpenClaim := { program := "ytkdlfgfjahnhmaa", sum := "9024c1d2e92ff5708f91a6776ddf8b5a72b4bbfe4c6473b02fc49db370dd04e5", func := "commonplace/commonplacelaw19.LogKeeps", spec := "logKeeps", inPlace := ["slices.overlaps[commonplace/api.Entry]", "slices.overlaps[*commonplace/node.Node]"], unfollowed := true, recurses := true, apart := false }
def LogKeepsSaid : Prop := logKeepsRow.holds Try.pinned (OpenSpec.ofChange logKeepsSpec)

/-- ITS FALSE NEIGHBOUR: 'it returns false'. Refute it at one input. -/
def logKeepsWrong : ChangeSpec := { name := "logKeeps", fn := fun _ => fun
  | [d1, d2, d3] => { results := [.lit (.bool false)], args := [d1, d2, d3] }
  | _ => none }
def LogKeepsWrongFalsely : Prop := logKeepsRow.holds Try.pinned (OpenSpec.ofChange logKeepsWrong)

/-- 'commonplacelaw19.LogPuts': WHATEVER THE INPUT: true; the input reads as it did. -/
def logPutsSpec : ChangeSpec := { name := "logPuts", fn := fun _ => fun
  | [d1, d2] => { results := [.lit (.bool true)], args := [d1, d2] }
  | _ => none }
def logPutsRow : OpenClaim := { program := "ytkdlfgfjahnhmaa", sum := "9024c1d2e92ff5708f91a6776ddf8b5a72b4bbfe4c6473b02fc49db370dd04e5", func := "commonplace/commonplacelaw19.LogPuts", spec := "logPuts", inPlace := ["slices.overlaps[commonplace/api.Entry]", "slices.overlaps[*commonplace/node.Node]"], unfollowed := true, recurses := true, apart := false }
def LogPutsSaid : Prop := logPutsRow.holds Try.pinned (OpenSpec.ofChange logPutsSpec)

/-- ITS FALSE NEIGHBOUR: 'it returns false'. Refute it at one input. -/
def logPutsWrong : ChangeSpec := { name := "logPuts", fn := fun _ => fun
  | [d1, d2] => { results := [.lit (.bool false)], args := [d1, d2] }
  | _ => none }
def LogPutsWrongFalsely : Prop := logPutsRow.holds Try.pinned (OpenSpec.ofChange logPutsWrong)

/-- 'commonplacelaw19.LogSince': WHATEVER THE INPUT: true; the input reads as it did. -/
def logSinceSpec : ChangeSpec := { name := "logSince", fn := fun _ => fun
  | [d1, d2, d3] => { results := [.lit (.bool true)], args := [d1, d2, d3] }
  | _ => none }
def logSinceRow : OpenClaim := { program := "ytkdlfgfjahnhmaa", sum := "9024c1d2e92ff5708f91a6776ddf8b5a72b4bbfe4c6473b02fc49db370dd04e5", func := "commonplace/commonplacelaw19.LogSince", spec := "logSince", inPlace := ["slices.overlaps[commonplace/api.Entry]", "slices.overlaps[*commonplace/node.Node]"], unfollowed := true, recurses := true, apart := false }
def LogSinceSaid : Prop := logSinceRow.holds Try.pinned (OpenSpec.ofChange logSinceSpec)

/-- ITS FALSE NEIGHBOUR: 'it returns false'. Refute it at one input. -/
def logSinceWrong : ChangeSpec := { name := "logSince", fn := fun _ => fun
  | [d1, d2, d3] => { results := [.lit (.bool false)], args := [d1, d2, d3] }
  | _ => none }
def LogSinceWrongFalsely : Prop := logSinceRow.holds Try.pinned (OpenSpec.ofChange logSinceWrong)

/-- 'commonplacelaw19.LogLeft': WHATEVER THE INPUT: true; the input reads as it did. -/
def logLeftSpec : ChangeSpec := { name := "logLeft", fn := fun _ => fun
  | [d1, d2, d3] => { results := [.lit (.bool true)], args := [d1, d2, d3] }
  | _ => none }
def logLeftRow : OpenClaim := { program := "ytkdlfgfjahnhmaa", sum := "9024c1d2e92ff5708f91a6776ddf8b5a72b4bbfe4c6473b02fc49db370dd04e5", func := "commonplace/commonplacelaw19.LogLeft", spec := "logLeft", inPlace := ["slices.overlaps[commonplace/api.Entry]", "slices.overlaps[*commonplace/node.Node]"], unfollowed := true, recurses := true, apart := false }
def LogLeftSaid : Prop := logLeftRow.holds Try.pinned (OpenSpec.ofChange logLeftSpec)

/-- ITS FALSE NEIGHBOUR: 'it returns false'. Refute it at one input. -/
def logLeftWrong : ChangeSpec := { name := "logLeft", fn := fun _ => fun
  | [d1, d2, d3] => { results := [.lit (.bool false)], args := [d1, d2, d3] }
  | _ => none }
def LogLeftWrongFalsely : Prop := logLeftRow.holds Try.pinned (OpenSpec.ofChange logLeftWrong)

/-- 'commonplacelaw19.LogNil': WHATEVER THE INPUT: true; the input reads as it did. -/
def logNilSpec : ChangeSpec := { name := "logNil", fn := fun _ => fun
  | [] => { results := [.lit (.bool true)], args := [] }
  | _ => none }
def logNilRow : OpenClaim := { program := "ytkdlfgfjahnhmaa", sum := "9024c1d2e92ff5708f91a6776ddf8b5a72b4bbfe4c6473b02fc49db370dd04e5", func := "commonplace/commonplacelaw19.LogNil", spec := "logNil", inPlace := ["slices.overlaps[commonplace/api.Entry]", "slices.overlaps[*commonplace/node.Node]"], unfollowed := true, recurses := true, apart := false }
def LogNilSaid : Prop := logNilRow.holds Try.pinned (OpenSpec.ofChange logNilSpec)

/-- ITS FALSE NEIGHBOUR: 'it returns false'. Refute it at one input. -/
def logNilWrong : ChangeSpec := { name := "logNil", fn := fun _ => fun
  | [] => { results := [.lit (.bool false)], args := [] }
  | _ => none }
def LogNilWrongFalsely : Prop := logNilRow.holds Try.pinned (OpenSpec.ofChange logNilWrong)

/- THE SECOND FORM. 'bulk': how many values and letters a reading holds, each counted each time it is reached (what is shared counts as often as it is met; a slice's spare places count too). A statement '..UptoSaid' is the law's where the arguments, and the package variables that the reading takes, are together of bulk at most 1048576: NARROWER than '..Said'. Prove '..Said' where nothing that the law and all that it calls make is longer than what came in: it says more and counts as full. Else prove '..UptoSaid'. A law counts once. -/
mutual
def uptoBulk {H : Type} : DataW H → Nat
  | .lit (.string bytes) => bytes.length + 1
  | .lit _ => 1
  | .nil => 1
  | .ptr d => uptoBulk d + 1
  | .slice elems spare => uptoBulkAll elems + uptoBulkAll spare + 1
  | .agg parts => uptoBulkAll parts + 1
  | .iface _ d => uptoBulk d + 1
  | .map entries => uptoBulkEntries entries + 1
  | .held _ => 1
def uptoBulkAll {H : Type} : List (DataW H) → Nat
  | [] => 0
  | d :: r => uptoBulk d + uptoBulkAll r
def uptoBulkEntries {H : Type} : List (Lit × DataW H) → Nat
  | [] => 0
  | x :: r => uptoBulkEntry x + uptoBulkEntries r
def uptoBulkEntry {H : Type} : Lit × DataW H → Nat
  | (.string bytes, d) => bytes.length + uptoBulk d + 1
  | (_, d) => uptoBulk d + 1
 end
def uptoSmall : (H : Type) → List (DataW H) → Bool := fun _ ds => decide (uptoBulkAll ds ≤ 1048576)
def OpenSpec.upto (s : _root_.Go.ChangeSpec) : _root_.Go.OpenSpec := { _root_.Go.OpenSpec.ofChange s with cond := some uptoSmall }

/-- 'commonplacelaw19.LogPlays', WHERE WHAT IT READS IS OF BULK AT MOST 1048576: true; the input reads as it did. -/
def logPlaysUptoRow : OpenClaim := { program := "ytkdlfgfjahnhmaa", sum := "9024c1d2e92ff5708f91a6776ddf8b5a72b4bbfe4c6473b02fc49db370dd04e5", func := "commonplace/commonplacelaw19.LogPlays", spec := "logPlays", inPlace := ["slices.overlaps[commonplace/api.Entry]", "slices.overlaps[*commonplace/node.Node]"], unfollowed := true, recurses := true, apart := false, narrowed := true }
def LogPlaysUptoSaid : Prop := logPlaysUptoRow.holds Try.pinned (OpenSpec.upto logPlaysSpec)

/-- 'commonplacelaw19.LogKeeps', WHERE WHAT IT READS IS OF BULK AT MOST 1048576: true; the input reads as it did. -/
def logKeepsUptoRow : OpenClaim := { program := "ytkdlfgfjahnhmaa", sum := "9024c1d2e92ff5708f91a6776ddf8b5a72b4bbfe4c6473b02fc49db370dd04e5", func := "commonplace/commonplacelaw19.LogKeeps", spec := "logKeeps", inPlace := ["slices.overlaps[commonplace/api.Entry]", "slices.overlaps[*commonplace/node.Node]"], unfollowed := true, recurses := true, apart := false, narrowed := true }
def LogKeepsUptoSaid : Prop := logKeepsUptoRow.holds Try.pinned (OpenSpec.upto logKeepsSpec)

/-- 'commonplacelaw19.LogPuts', WHERE WHAT IT READS IS OF BULK AT MOST 1048576: true; the input reads as it did. -/
def logPutsUptoRow : OpenClaim := { program := "ytkdlfgfjahnhmaa", sum := "9024c1d2e92ff5708f91a6776ddf8b5a72b4bbfe4c6473b02fc49db370dd04e5", func := "commonplace/commonplacelaw19.LogPuts", spec := "logPuts", inPlace := ["slices.overlaps[commonplace/api.Entry]", "slices.overlaps[*commonplace/node.Node]"], unfollowed := true, recurses := true, apart := false, narrowed := true }
def LogPutsUptoSaid : Prop := logPutsUptoRow.holds Try.pinned (OpenSpec.upto logPutsSpec)

/-- 'commonplacelaw19.LogSince', WHERE WHAT IT READS IS OF BULK AT MOST 1048576: true; the input reads as it did. -/
def logSinceUptoRow : OpenClaim := { program := "ytkdlfgfjahnhmaa", sum := "9024c1d2e92ff5708f91a6776ddf8b5a72b4bbfe4c6473b02fc49db370dd04e5", func := "commonplace/commonplacelaw19.LogSince", spec := "logSince", inPlace := ["slices.overlaps[commonplace/api.Entry]", "slices.overlaps[*commonplace/node.Node]"], unfollowed := true, recurses := true, apart := false, narrowed := true }
def LogSinceUptoSaid : Prop := logSinceUptoRow.holds Try.pinned (OpenSpec.upto logSinceSpec)

/-- 'commonplacelaw19.LogLeft', WHERE WHAT IT READS IS OF BULK AT MOST 1048576: true; the input reads as it did. -/
def logLeftUptoRow : OpenClaim := { program := "ytkdlfgfjahnhmaa", sum := "9024c1d2e92ff5708f91a6776ddf8b5a72b4bbfe4c6473b02fc49db370dd04e5", func := "commonplace/commonplacelaw19.LogLeft", spec := "logLeft", inPlace := ["slices.overlaps[commonplace/api.Entry]", "slices.overlaps[*commonplace/node.Node]"], unfollowed := true, recurses := true, apart := false, narrowed := true }
def LogLeftUptoSaid : Prop := logLeftUptoRow.holds Try.pinned (OpenSpec.upto logLeftSpec)

/-- 'commonplacelaw19.LogNil', WHERE WHAT IT READS IS OF BULK AT MOST 1048576: true; the input reads as it did. -/
def logNilUptoRow : OpenClaim := { program := "ytkdlfgfjahnhmaa", sum := "9024c1d2e92ff5708f91a6776ddf8b5a72b4bbfe4c6473b02fc49db370dd04e5", func := "commonplace/commonplacelaw19.LogNil", spec := "logNil", inPlace := ["slices.overlaps[commonplace/api.Entry]", "slices.overlaps[*commonplace/node.Node]"], unfollowed := true, recurses := true, apart := false, narrowed := true }
def LogNilUptoSaid : Prop := logNilUptoRow.holds Try.pinned (OpenSpec.upto logNilSpec)

end Rows
end Go.Proofs.Ytkdlfgfjahnhmaa
