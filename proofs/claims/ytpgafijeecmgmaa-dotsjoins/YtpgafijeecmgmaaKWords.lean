/- The contracts of Words of package key and of the reference. -/
import Derived.Test.YtpgafijeecmgmaaKRight
namespace Go.Proofs.Ytpgafijeecmgmaa
open Go.RowKit

theorem wpAnyH_narrow {P : Program} {ops : Array Oper} {Q : Exit → Act → World → Prop} {md : Region.Mode} {S S' : World → Prop} (h : ∀ W, S' W → S W) : ∀ (fuel : Nat) (listed : Array Bool) (a : Act) (w : World), wpAnyH P md ops Q S' fuel listed a w → wpAnyH P md ops Q S fuel listed a w
  | 0, _, _, _, hh => hh
  | fuel + 1, _, _, _, hh => ⟨hh.1, fun i hi => wpOp_mono (fun a' w' h' => ⟨h w' h'.1, wpAnyH_narrow h fuel _ a' w' h'.2⟩) (hh.2 i hi)⟩
/-- What holds of every world of the region. -/
structure WS (w : World) (k : Ky) (W : World) : Prop where
  bel : Below w.heap.size w W
  blk : Blk W w.heap.size 75 k.cells
theorem WS.drew {w : World} {k : Ky} {W : World} (h : WS w k W) : WS w k W.drew := ⟨below_drew h.bel, h.blk.drew⟩
theorem WS.below {w : World} {k : Ky} {W W' : World} (h : WS w k W) (hb : Below W.heap.size W W') : WS w k W' := ⟨step_ h.bel hb, h.blk.below hb⟩
theorem WS.only {w : World} {k : Ky} {W W' : World} {g : Nat} (h : WS w k W) (hb : Only g W W') (hg : w.heap.size < g) : WS w k W' := ⟨h.bel.trans (hb.below (Nat.le_of_lt hg) h.bel.size), h.blk.only hb (Nat.ne_of_lt hg)⟩
theorem ws_new (w : World) (k : Ky) (o : Obj) : WS w k ((w.alloc (.cells k.cells.toArray 75)).alloc o) := ⟨step_ (new_below w _) (new_below _ _), (blk_alloc w 75 k.cells).alloc o⟩
theorem spell0 {k : Ky} (h : k.Ok) : bits .or .u64 (IntKind.u64.wrap (IntKind.u64.wrap k.s * 65536)) (IntKind.u64.wrap k.c) = k.w0 := by
  have := h.s0; have := h.s1; have := h.c0; have := h.c1
  have e1 : IntKind.u64.wrap k.s = k.s := by rw [IntKind.wrap_u64]; omega
  have e2 : IntKind.u64.wrap (k.s * 65536) = k.s * 65536 := by rw [IntKind.wrap_u64]; omega
  have e3 : IntKind.u64.wrap k.c = k.c := by rw [IntKind.wrap_u64]; omega
  rw [e1, e2, e3]
  exact or16 _ _ h.s0 h.s1 h.c0 h.c1
theorem spell1 {k : Ky} (h : k.Ok) : IntKind.u64.wrap (IntKind.u64.wrap (IntKind.u64.wrap k.s * 65536) + IntKind.u64.wrap k.c) = k.w0 := by
  have := h.s0; have := h.s1; have := h.c0; have := h.c1
  unfold Ky.w0
  rw [IntKind.wrap_u64, IntKind.wrap_u64, IntKind.wrap_u64, IntKind.wrap_u64]; omega
theorem spell2 {k : Ky} (h : k.Ok) : IntKind.u64.wrap (IntKind.u64.wrap (IntKind.u64.wrap k.r * 4294967296) + IntKind.u64.wrap k.q) = k.w2 := by
  have := h.r0; have := h.r1; have := h.q0; have := h.q1
  unfold Ky.w2
  rw [IntKind.wrap_u64, IntKind.wrap_u64, IntKind.wrap_u64, IntKind.wrap_u64]; omega
end Go.Proofs.Ytpgafijeecmgmaa
