import Derived.Test.YtinodpaacnnjcaaEvNodeOwn0
namespace Go.Proofs.Ytinodpaacnnjcaa
open Go.RowKit
theorem no_6_5 : noRun 6 5 false := by
  intro ks n b o c arr e fz hL harr hf
  kernel_rfl
theorem no_6_0b : noRun 6 0 true := by
  intro ks n b o c arr e fz hL harr hf
  kernel_rfl
theorem no_6_1b : noRun 6 1 true := by
  intro ks n b o c arr e fz hL harr hf
  kernel_rfl
theorem no_6_2b : noRun 6 2 true := by
  intro ks n b o c arr e fz hL harr hf
  kernel_rfl
theorem no_6_3b : noRun 6 3 true := by
  intro ks n b o c arr e fz hL harr hf
  kernel_rfl
theorem no_6_4b : noRun 6 4 true := by
  intro ks n b o c arr e fz hL harr hf
  kernel_rfl
theorem no_8_7 : noRun 8 7 false := by
  intro ks n b o c arr e fz hL harr hf
  kernel_rfl
theorem no_8_4b : noRun 8 4 true := by
  intro ks n b o c arr e fz hL harr hf
  kernel_rfl
theorem no_8_5b : noRun 8 5 true := by
  intro ks n b o c arr e fz hL harr hf
  kernel_rfl
theorem no_8_6b : noRun 8 6 true := by
  intro ks n b o c arr e fz hL harr hf
  kernel_rfl
end Go.Proofs.Ytinodpaacnnjcaa
