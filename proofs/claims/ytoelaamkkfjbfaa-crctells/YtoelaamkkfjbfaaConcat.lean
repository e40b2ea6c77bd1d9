/- The contracts of Grow of package slices at the nil slice, and of Concat at two slices of bytes. -/
import Derived.Test.YtoelaamkkfjbfaaBytes
import Derived.Lib.AppendZerosOnto
namespace Go.Proofs.Ytoelaamkkfjbfaa
open Go.RowKit

def GivesOwn (w : World) (l : List Int) (e : Ending) (w' : World) : Prop := ∃ v, e = .returned v ∧ w'.ownsRow w.heap.size 5 1 v l.length (l.map (Value.int .u8)) ∧ Below w.heap.size w w'
set_option maxRecDepth 100000 in
theorem grow_is (n : Nat) (w : World) (hn : 0 < n) (hm : n ≤ 1000) : Calls Try.prog 27 #[.slice none 0 0, .int .i64 n] w (GivesOwn w []) := by
  obtain ⟨i0, hi, hz0, hz1, hz2⟩ := info_parts info5
  have hrz : ∀ ty, (Builtin.append_ #[22, 3] ty #[.slice none 0 0, .int .i64 n]).run Try.prog w =
      .ok (.slice (some ⟨w.heap.size, 0, none⟩) n (grownCap w n 0 5)) (w.drew.alloc (.cells ((#[] : Array Value) ++ Builtin.zeroCells (Value.int .u8 0).cells n ++ Builtin.zeroCells (Value.int .u8 0).cells (grownCap w n 0 5 - n)) 5)) := fun ty => by
    have h := Lib.run_append_grow_zeros w 22 3 ty 5 i0 (.int .u8 0) .i64 .i64 Try.underlying22 Try.underlying3 hi hz0 none 0 0 [] (run_firstCells_none w.drew i0.size 0 0 0) n hn (by omega) (by omega) (by omega) (by rw [hz2]; omega) (growslice_fits (by omega) (by rw [hz2]; omega))
    rw [Nat.zero_add] at h
    exact h
  have hG : n ≤ grownCap w n 0 5 := grownCap_ge w _ _ _
  have hG2 := grownCap_le_maxLen w n 0 5 (by unfold maxLen; omega)
  obtain ⟨G, hGe⟩ : ∃ G, grownCap w n 0 5 = G := ⟨_, rfl⟩
  rw [hGe] at hrz hG hG2
  have hown := Lib.hid (World.ownsRow_made (base := w.heap.size) (e := 5) (size := 1) w (Builtin.zeroCells #[Value.int .u8 0] n ++ Builtin.zeroCells #[Value.int .u8 0] (G - n)) G (Nat.le_refl _) hG2 (by simp [size_zeroCells]; omega))
  have hG63 : G ≤ 9223372036854775807 := by unfold maxLen at hG2; omega
  clear hi hz0 hz1 hz2 hGe hG2
  have HR := Lib.hid hrz
  clear hrz
  go_enter Try.func27, Try.ntmps27
  go_wp2_with (at_builtin; refine Lib.wpList_append_run _ rfl _ _ _ _ rfl _ _ rfl rfl _ _ (HR.out _) ?_)
  go_ret
  exact ⟨_, rfl, hown.out.drew, ((Below.refl _ w).alloc (Nat.le_refl _) _).drew⟩
set_option maxRecDepth 100000 in
theorem concat_is (B : Nat) (v1 v2 : Value) (l1 l2 : List Int) (w : World) (hB : B < w.heap.size) (c0 : Hid (w.cell? ⟨B, 0, none⟩ = some v1)) (c1 : Hid (w.cell? ⟨B, 1, none⟩ = some v2)) (h1 : BytesAt w v1 l1) (h2 : BytesAt w v2 l2) (hn1 : l1.length ≤ 400) (hn2 : l2.length = 2) :
    Calls Try.prog 21 #[.slice (some ⟨B, 0, none⟩) 2 2] w (GivesOwn w (l1 ++ l2)) := by
  have H1 := Lib.hid h1
  have H2 := Lib.hid h2
  obtain ⟨a1, cap1, rfl, _, _, _⟩ := h1
  obtain ⟨a2, cap2, rfl, _, _, _⟩ := h2
  have hg := grow_is (l1.length + 2) w (by omega) (by omega)
  rw [show ((l1.length + 2 : Nat) : Int) = (l1.length : Int) + 2 by omega] at hg
  have HG := Lib.hid hg
  clear hg
  rw [hn2] at c1 H2
  have q0 := c0.out
  have q1 := c1.out
  go_enter Try.func21, Try.ntmps21
  go_wp2_with fail
  refine wp_loop_rounds 3 ?_
  rw [rounds_succ]
  go_wp2_with fail
  rw [rounds_succ]
  go_wp2_with fail
  rw [rounds_succ]
  go_wp2_with fail
  refine HG.out.mono ?_
  rintro e w1 ⟨v, rfl, hown, b1⟩
  have HO := Lib.hid hown
  have B1 := Lib.hid b1
  have p0 := (b1.cell (p := ⟨B, 0, none⟩) hB).trans c0.out
  have V1 := Lib.hid (H1.out.below b1)
  clear hown b1 q0 q1 HG
  go_wp2_with fail
  refine wp_loop_rounds 3 ?_
  rw [rounds_succ]
  go_wp2_with ((at_builtin; refine app_bytes _ rfl (.tmp 31) (.tmp 32) rfl w.heap.size _ _ [] l1 rfl HO.out rfl V1.out (by simp; omega) B1.out.size ?_; intro v2 w2 hown2 b2; have HO2 := Lib.hid hown2; have B2 := Lib.hid (B1.out.trans b2); have p1 := (B2.out.cell (p := ⟨B, 1, none⟩) hB).trans c1.out; have V2 := Lib.hid (H2.out.below B2.out); clear hown2 b2 p0))
  rw [rounds_succ]
  go_wp2_with ((at_builtin; refine app_bytes _ rfl (.tmp 31) (.tmp 32) rfl w.heap.size _ _ ([] ++ l1) l2 rfl HO2.out rfl V2.out (by simp; omega) B2.out.size ?_; intro v3 w3 hown3 b3; have HO3 := Lib.hid hown3; have B3 := Lib.hid (B2.out.trans b3); clear hown3 b3 p1))
  rw [rounds_succ]
  go_wp2_with fail
  go_ret
  exact ⟨_, rfl, HO3.out, B3.out⟩
end Go.Proofs.Ytoelaamkkfjbfaa
