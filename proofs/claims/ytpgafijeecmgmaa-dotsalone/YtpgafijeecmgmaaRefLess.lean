/- The contract of Less of the reference. -/
import Derived.Test.YtpgafijeecmgmaaKLess
namespace Go.Proofs.Ytpgafijeecmgmaa
open Go.RowKit

theorem less_w0 {A B : Ky} (h : ¬ A.w0 = B.w0) : A.less B = decide (A.w0 < B.w0) := by unfold Ky.less less3; rw [if_pos h]
theorem less_w1 {A B : Ky} (h : A.w0 = B.w0) (h1 : ¬ A.w1 = B.w1) : A.less B = decide (A.w1 < B.w1) := by unfold Ky.less less3; rw [if_neg (show ¬ (A.w0 ≠ B.w0) from fun e => e h), if_pos h1]
theorem less_w2 {A B : Ky} (h : A.w0 = B.w0) (h1 : A.w1 = B.w1) : A.less B = decide (A.w2 < B.w2) := by unfold Ky.less less3; rw [if_neg (show ¬ (A.w0 ≠ B.w0) from fun e => e h), if_neg (show ¬ (A.w1 ≠ B.w1) from fun e => e h1)]
end Go.Proofs.Ytpgafijeecmgmaa
