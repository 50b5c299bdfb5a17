import Derived.Test.YtinodpaacnnjcaaEvNodeOwn0
namespace Go.Proofs.Ytinodpaacnnjcaa
open Go.RowKit
theorem no_7_6 : noRun 7 6 false := by
  intro ks n b o c arr e fz hL harr hf
  kernel_rfl
theorem no_7_0b : noRun 7 0 true := by
  intro ks n b o c arr e fz hL harr hf
  kernel_rfl
theorem no_7_1b : noRun 7 1 true := by
  intro ks n b o c arr e fz hL harr hf
  kernel_rfl
theorem no_7_2b : noRun 7 2 true := by
  intro ks n b o c arr e fz hL harr hf
  kernel_rfl
theorem no_7_3b : noRun 7 3 true := by
  intro ks n b o c arr e fz hL harr hf
  kernel_rfl
theorem no_7_4b : noRun 7 4 true := by
  intro ks n b o c arr e fz hL harr hf
  kernel_rfl
theorem no_7_5b : noRun 7 5 true := by
  intro ks n b o c arr e fz hL harr hf
  kernel_rfl
end Go.Proofs.Ytinodpaacnnjcaa
