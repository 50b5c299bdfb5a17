import Derived.Test.YtinodpaacnnjcaaEvNodeOwn0
namespace Go.Proofs.Ytinodpaacnnjcaa
open Go.RowKit
theorem no_4_3 : noRun 4 3 false := by
  intro ks n b o c arr e fz hL harr hf
  kernel_rfl
theorem no_4_0b : noRun 4 0 true := by
  intro ks n b o c arr e fz hL harr hf
  kernel_rfl
theorem no_4_1b : noRun 4 1 true := by
  intro ks n b o c arr e fz hL harr hf
  kernel_rfl
theorem no_4_2b : noRun 4 2 true := by
  intro ks n b o c arr e fz hL harr hf
  kernel_rfl
theorem no_5_4 : noRun 5 4 false := by
  intro ks n b o c arr e fz hL harr hf
  kernel_rfl
theorem no_5_0b : noRun 5 0 true := by
  intro ks n b o c arr e fz hL harr hf
  kernel_rfl
theorem no_5_1b : noRun 5 1 true := by
  intro ks n b o c arr e fz hL harr hf
  kernel_rfl
theorem no_5_2b : noRun 5 2 true := by
  intro ks n b o c arr e fz hL harr hf
  kernel_rfl
theorem no_5_3b : noRun 5 3 true := by
  intro ks n b o c arr e fz hL harr hf
  kernel_rfl
end Go.Proofs.Ytinodpaacnnjcaa
