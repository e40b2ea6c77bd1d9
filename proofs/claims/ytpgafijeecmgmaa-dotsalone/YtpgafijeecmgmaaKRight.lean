/- The contracts of Right of package key and of the reference. -/
import Derived.Test.YtpgafijeecmgmaaSmallK
namespace Go.Proofs.Ytpgafijeecmgmaa
open Go.RowKit

theorem right1 {k : Ky} (h : k.s = 1) : k.right = (M.rightB k.m && decide (k.r < 16) && decide (0 < k.q)) := by unfold Ky.right; rw [if_pos h]
theorem right2 {k : Ky} (h : k.s = 2 ∨ k.s = 3) : k.right = (M.rightB k.m && decide (k.r < 16) && decide (k.q = 0)) := by unfold Ky.right; rw [if_neg (by omega), if_pos h]
theorem right4 {k : Ky} (h : k.s = 4) : k.right = decide (k = ⟨4, k.c, M.zero8, 0, 0⟩) := by unfold Ky.right; rw [if_neg (by omega), if_neg (by omega), if_pos h]
theorem right5 {k : Ky} (h1 : ¬ k.s = 1) (h2 : ¬ k.s = 2) (h3 : ¬ k.s = 3) (h4 : ¬ k.s = 4) : k.right = false := by unfold Ky.right; rw [if_neg h1, if_neg (by omega), if_neg h4]
end Go.Proofs.Ytpgafijeecmgmaa
