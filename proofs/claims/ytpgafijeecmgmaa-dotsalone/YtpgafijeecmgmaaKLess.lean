/- The contracts of slices.Compare at three words, and of Less of package key and of the reference. -/
import Derived.Test.YtpgafijeecmgmaaKWords
namespace Go.Proofs.Ytpgafijeecmgmaa
open Go.RowKit

def cmp3 (a b c x y z : Int) : Int := if cmp2 a x ≠ 0 then cmp2 a x else if cmp2 b y ≠ 0 then cmp2 b y else cmp2 c z
theorem cmp2_zero {x y : Int} : cmp2 x y = 0 ↔ x = y := by
  unfold cmp2
  constructor
  · intro h
    split at h
    · omega
    · split at h <;> omega
  · intro h; rw [if_neg (by omega), if_neg (by omega)]
theorem cmp2_neg {x y : Int} : decide (cmp2 x y < 0) = decide (x < y) := by
  unfold cmp2
  split
  · rename_i h; simp [h]
  · rename_i h
    split
    · simp [h]
    · simp [h]
theorem cmp3_less (a b c x y z : Int) : decide (cmp3 a b c x y z < 0) = less3 a b c x y z := by
  unfold cmp3 less3
  by_cases e : a = x
  · rw [if_neg (show ¬ (cmp2 a x ≠ 0) from fun h => h (cmp2_zero.2 e)), if_neg (show ¬ (a ≠ x) from fun h => h e)]
    by_cases e1 : b = y
    · rw [if_neg (show ¬ (cmp2 b y ≠ 0) from fun h => h (cmp2_zero.2 e1)), if_neg (show ¬ (b ≠ y) from fun h => h e1)]
      exact cmp2_neg
    · rw [if_pos (show cmp2 b y ≠ 0 from fun h => e1 (cmp2_zero.1 h)), if_pos (show b ≠ y from e1)]
      exact cmp2_neg
  · rw [if_pos (show cmp2 a x ≠ 0 from fun h => e (cmp2_zero.1 h)), if_pos (show a ≠ x from e)]
    exact cmp2_neg
theorem Blk.drewN {w : World} {g t : Nat} {cs : List Value} (h : Blk w g t cs) (n : Nat) : Blk (w.drewN n) g t cs := h
/-- What holds of every world of the region of two keys. -/
structure LS (w : World) (A B : Ky) (W : World) : Prop where
  bel : Below w.heap.size w W
  one : Blk W w.heap.size 75 A.cells
  two : Blk W (w.heap.size + 1) 75 B.cells
theorem LS.drew {w : World} {A B : Ky} {W : World} (h : LS w A B W) : LS w A B W.drew := ⟨below_drew h.bel, h.one.drew, h.two.drew⟩
theorem LS.below {w : World} {A B : Ky} {W W' : World} (h : LS w A B W) (hb : Below W.heap.size W W') : LS w A B W' := ⟨step_ h.bel hb, h.one.below hb, h.two.below hb⟩
theorem LS.only {w : World} {A B : Ky} {W W' : World} {g : Nat} (h : LS w A B W) (hb : Only g W W') (hg : w.heap.size + 1 < g) : LS w A B W' := ⟨h.bel.trans (hb.below (by omega) h.bel.size), h.one.only hb (by omega), h.two.only hb (by omega)⟩
theorem ls_new (w : World) (A B : Ky) : LS w A B ((w.alloc (.cells A.cells.toArray 75)).alloc (.cells B.cells.toArray 75)) := ⟨step_ (new_below w _) (new_below _ _), (blk_alloc w 75 A.cells).alloc _, blk2 w _ 75 B.cells⟩
theorem LS.size {w : World} {A B : Ky} {W : World} (h : LS w A B W) : w.heap.size + 1 < W.heap.size := h.two.lt
end Go.Proofs.Ytpgafijeecmgmaa
