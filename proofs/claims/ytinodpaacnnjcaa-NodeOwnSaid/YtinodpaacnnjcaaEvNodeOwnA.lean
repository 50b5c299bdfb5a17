import Derived.Test.YtinodpaacnnjcaaEvNodeOwn0
namespace Go.Proofs.Ytinodpaacnnjcaa
open Go.RowKit
theorem no_1_0 : noRun 1 0 false := by
  intro ks n b o c arr e fz hL harr hf
  kernel_rfl
theorem no_2_1 : noRun 2 1 false := by
  intro ks n b o c arr e fz hL harr hf
  kernel_rfl
theorem no_2_0b : noRun 2 0 true := by
  intro ks n b o c arr e fz hL harr hf
  kernel_rfl
theorem no_3_2 : noRun 3 2 false := by
  intro ks n b o c arr e fz hL harr hf
  kernel_rfl
theorem no_3_0b : noRun 3 0 true := by
  intro ks n b o c arr e fz hL harr hf
  kernel_rfl
theorem no_3_1b : noRun 3 1 true := by
  intro ks n b o c arr e fz hL harr hf
  kernel_rfl
theorem no_8_0b : noRun 8 0 true := by
  intro ks n b o c arr e fz hL harr hf
  kernel_rfl
theorem no_8_1b : noRun 8 1 true := by
  intro ks n b o c arr e fz hL harr hf
  kernel_rfl
theorem no_8_2b : noRun 8 2 true := by
  intro ks n b o c arr e fz hL harr hf
  kernel_rfl
theorem no_8_3b : noRun 8 3 true := by
  intro ks n b o c arr e fz hL harr hf
  kernel_rfl
end Go.Proofs.Ytinodpaacnnjcaa
