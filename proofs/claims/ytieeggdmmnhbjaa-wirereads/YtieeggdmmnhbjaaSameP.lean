/- The contract of Same of the reference at pieces that are the same. -/
import Derived.Test.YtieeggdmmnhbjaaReadPc
namespace Go.Proofs.Ytieeggdmmnhbjaa
open Go.RowKit

set_option maxRecDepth 100000 in
theorem sameP_is (p : Pc) (v2 : Value) (w : World) (hm : p.m.length = 8) (hb : p.b.length ≤ 30000) (h1 : BytesAt w p.v p.b) (h2 : BytesAt w v2 p.b) :
    Calls Try.prog 14 #[.agg p.cells.toArray, .agg ({ p with v := v2 } : Pc).cells.toArray] w fun e w' => e = .returned (.bool true) ∧ Below w.heap.size w w' := by
  have q1 := (blk_alloc w 33 p.cells).alloc (.cells ({ p with v := v2 } : Pc).cells.toArray 33)
  have q2 := blk2 w (.cells p.cells.toArray 33) 33 ({ p with v := v2 } : Pc).cells
  have a0 := q1.cell (cells0 _)
  have a1 := q1.cell (cells1 _)
  have a2 := q1.cell (cells2 _)
  have a4 := q1.cell (cells11 hm)
  have b0 := q2.cell (cells0 _)
  have b1 := q2.cell (cells1 _)
  have b2 := q2.cell (cells2 _)
  have b4 := q2.cell (cells11 (p := { p with v := v2 }) hm)
  have A3 := Lib.hid (q1.nm hm)
  have B3 := Lib.hid (q2.nm (p := { p with v := v2 }) hm)
  have HM := Lib.hid hm
  have hq : ∀ w d, (Op.equalIn (d + 2) 30 (.agg (nm p.m)) (.agg (nm p.m))).run Try.prog w = .ok true w := fun w d => by have := eql23 p.m p.m HM.out HM.out d w; rwa [beq_self_eq_true] at this
  have B0 := Lib.hid (step_ (new_below w (.cells p.cells.toArray 33)) (new_below _ (.cells ({ p with v := v2 } : Pc).cells.toArray 33)))
  have V1 := Lib.hid (h1.below B0.out)
  have V2 := Lib.hid (h2.below B0.out)
  have HB := Lib.hid hb
  clear q1 q2 hm h1 h2 hb
  go_enter Try.func14, Try.ntmps14
  go_wp2_with (first
    | (refine wanted_on rfl ?_; refine wpList_load_nm rfl (.tmp 25) rfl w.heap.size 3 p.m rfl A3.out HM.out ?_)
    | (refine wanted_on rfl ?_; refine wpList_load_nm rfl (.tmp 27) rfl (w.heap.size + 1) 3 p.m rfl B3.out HM.out ?_))
  refine (same_any _ _ p.b _ HB.out V1.out V2.out).mono ?_
  rintro e w1 ⟨rfl, c1⟩
  have B1 := Lib.hid (step_ B0.out c1)
  clear c1
  go_wp2_with fail
  go_ret
  exact ⟨rfl, B1.out⟩
end Go.Proofs.Ytieeggdmmnhbjaa
