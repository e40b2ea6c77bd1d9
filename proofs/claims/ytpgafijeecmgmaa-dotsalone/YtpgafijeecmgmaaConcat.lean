/- The contracts of Grow of package slices at the nil slice, and of Concat at two slices of numbers. -/
import Derived.Test.YtpgafijeecmgmaaQueue
namespace Go.Proofs.Ytpgafijeecmgmaa
open Go.RowKit

/-- The call answers a row of its own. -/
def GivesOwnN (w : World) (l : List Int) (e : Ending) (w' : World) : Prop := ∃ A c, e = .returned (.slice A l.length c) ∧ OwnN w' w.heap.size (.slice A l.length c) l ∧ Below w.heap.size w w'
set_option maxRecDepth 100000 in
theorem grow_is (n : Nat) (w : World) (hm : n ≤ 10000) : Calls Try.prog 49 #[.slice none 0 0, .int .i64 n] w (GivesOwnN w []) := by
  rcases Nat.eq_zero_or_pos n with h0 | hn
  · subst h0
    go_enter Try.func49, Try.ntmps49
    go_wp2_with fail
    go_ret
    exact ⟨none, 0, rfl, ownN_nil _ _, Below.refl _ _⟩
  obtain ⟨i0, hi, hz0, hz1, hz2⟩ := info_parts info27n
  have hrz : ∀ ty, (Builtin.append_ #[24, 3] ty #[.slice none 0 0, .int .i64 n]).run Try.prog w =
      .ok (.slice (some ⟨w.heap.size, 0, none⟩) n (grownCap w n 0 27)) (w.drew.alloc (.cells ((#[] : Array Value) ++ Builtin.zeroCells (Value.int .u64 0).cells n ++ Builtin.zeroCells (Value.int .u64 0).cells (grownCap w n 0 27 - n)) 27)) := fun ty => by
    have h := Lib.run_append_grow_zeros w 24 3 ty 27 i0 (.int .u64 0) .i64 .i64 Try.underlying24 Try.underlying3 hi hz0 none 0 0 [] (run_firstCells_none w.drew i0.size 0 0 0) n hn (by omega) (by omega) (by omega) (by rw [hz2]; omega) (growslice_fits (by omega) (by rw [hz2]; omega))
    rw [Nat.zero_add] at h
    exact h
  have hG : n ≤ grownCap w n 0 27 := grownCap_ge w _ _ _
  have hG2 := grownCap_le_maxLen w n 0 27 (by unfold maxLen; omega)
  obtain ⟨G, hGe⟩ : ∃ G, grownCap w n 0 27 = G := ⟨_, rfl⟩
  rw [hGe] at hrz hG hG2
  have hown := Lib.hid (World.ownsRow_made (base := w.heap.size) (e := 27) (size := 1) w (Builtin.zeroCells #[Value.int .u64 0] n ++ Builtin.zeroCells #[Value.int .u64 0] (G - n)) G (Nat.le_refl _) hG2 (by simp [size_zeroCells]; omega))
  have hG63 : G ≤ 9223372036854775807 := by unfold maxLen at hG2; omega
  clear hi hz0 hz1 hz2 hGe hG2
  have HR := Lib.hid hrz
  clear hrz
  go_enter Try.func49, Try.ntmps49
  go_wp2_with (at_builtin; refine Lib.wpList_append_run _ rfl _ _ _ _ rfl _ _ rfl rfl _ _ (HR.out _) ?_)
  go_ret
  exact ⟨_, _, rfl, ⟨nums_nil, hown.out.drew⟩, ((Below.refl _ w).alloc (Nat.le_refl _) _).drew⟩
set_option maxRecDepth 100000 in
theorem concat_is (B : Nat) (v1 v2 : Value) (l1 l2 : List Int) (w : World) (hb : Blk w B 24 [v1, v2]) (h1 : NumsAt w v1 l1) (h2 : NumsAt w v2 l2) (hn1 : l1.length ≤ 4000) (hn2 : l2.length ≤ 4000) :
    Calls Try.prog 44 #[.slice (some ⟨B, 0, none⟩) 2 2] w (GivesOwnN w (l1 ++ l2)) := by
  have H1 := Lib.hid h1
  have H2 := Lib.hid h2
  have HB := Lib.hid hb
  obtain ⟨a1, cap1, rfl⟩ := h1.shape
  obtain ⟨a2, cap2, rfl⟩ := h2.shape
  have q0 := hb.cell (i := 0) rfl
  have q1 := hb.cell (i := 1) rfl
  have e1 : IntKind.i64.wrap (l1.length : Int) = (l1.length : Int) := by rw [IntKind.wrap_i64]; omega
  have e2 : IntKind.i64.wrap ((l1.length : Int) + (l2.length : Int)) = ((l1.length + l2.length : Nat) : Int) := by rw [IntKind.wrap_i64]; omega
  have e3 : ¬ (l1.length : Int) < 0 := by omega
  have e4 : ¬ ((l1.length + l2.length : Nat) : Int) < 0 := by omega
  obtain ⟨n, hn⟩ : ∃ n, l1.length + l2.length = n := ⟨_, rfl⟩
  rw [hn] at e2 e4
  have HG := Lib.hid (grow_is n w (by omega))
  clear h1 h2 hb
  go_enter Try.func44, Try.ntmps44
  go_wp2_with fail
  refine wp_loop_rounds 3 ?_
  rw [rounds_succ]
  go_wp2_with fail
  rw [rounds_succ]
  go_wp2_with fail
  rw [rounds_succ]
  go_wp2_with fail
  refine HG.out.mono ?_
  rintro e w1 ⟨A0, c0, rfl, hown, b1⟩
  have HO := Lib.hid hown
  have B1 := Lib.hid b1
  have p0 := (HB.out.below b1).cell (i := 0) rfl
  have V1 := Lib.hid (H1.out.below b1)
  clear hown b1 q0 q1 HG
  go_wp2_with fail
  refine wp_loop_rounds 3 ?_
  rw [rounds_succ]
  go_wp2_with (at_builtin; refine wpList_app_n u24n rfl (.tmp 31) (.tmp 32) rfl w.heap.size _ _ [] l1 rfl rfl HO.out V1.out (by simp; omega) B1.out.size ?_; intro E2 k2 cap3 w2 hk2 hown2 b2 _; have HO2 := Lib.hid hown2.out; have B2 := Lib.hid (B1.out.trans b2.out); have p1 := (HB.out.below B2.out).cell (i := 1) rfl; have V2 := Lib.hid (H2.out.below B2.out); clear hown2 b2 p0)
  rw [rounds_succ]
  go_wp2_with (at_builtin; refine wpList_app_n u24n rfl (.tmp 31) (.tmp 32) rfl w.heap.size _ _ ([] ++ l1) l2 rfl rfl HO2.out V2.out (by simp; omega) B2.out.size ?_; intro E3 k3 cap4 w3 hk3 hown3 b3 _; have HO3 := Lib.hid hown3.out; have B3 := Lib.hid (B2.out.trans b3.out); clear hown3 b3 p1)
  rw [rounds_succ]
  go_wp2_with fail
  go_ret
  have ek := hk3.out
  simp only [List.nil_append] at ek
  subst ek
  exact ⟨_, _, rfl, by simpa using HO3.out, B3.out⟩
end Go.Proofs.Ytpgafijeecmgmaa
