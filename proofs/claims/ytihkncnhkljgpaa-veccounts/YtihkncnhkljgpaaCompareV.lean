/- The contracts of Compare of package cmp at numbers of 32 bits, of Compare of slices at two vectors, and of the comparison that tops sorts by. -/
import Derived.Test.YtihkncnhkljgpaaVecs
import Derived.Test.YtihkncnhkljgpaaCompare
namespace Go.Proofs.Ytihkncnhkljgpaa
open Go.RowKit

theorem isNaNV_is (x : Int) (w : World) : Calls Try.prog 76 #[.int .u32 x] w fun e w' => e = .returned (.bool false) ∧ w = w' := by
  go_enter Try.func76, Try.ntmps76
  go_wp2
  go_ret
  exact ⟨rfl, rfl⟩
theorem compareU_is (x y : Int) (w : World) : Calls Try.prog 56 #[.int .u32 x, .int .u32 y] w fun e w' => e = .returned (.int .i64 (cmp2 x y)) ∧ w = w' := by
  by_cases h1 : x < y
  · have e1 : cmp2 x y = -1 := if_pos h1
    rw [e1]
    clear e1
    go_enter Try.func56, Try.ntmps56
    go_wp2_with fail
    refine (isNaNV_is x _).mono ?_
    rintro e w1 ⟨rfl, rfl⟩
    go_wp2_with fail
    refine (isNaNV_is y _).mono ?_
    rintro e w1 ⟨rfl, rfl⟩
    go_wp2_with fail
    go_ret
    exact ⟨rfl, rfl⟩
  · by_cases h2 : y < x
    · have e1 : cmp2 x y = 1 := by unfold cmp2; rw [if_neg h1, if_pos h2]
      rw [e1]
      clear e1
      go_enter Try.func56, Try.ntmps56
      go_wp2_with fail
      refine (isNaNV_is x _).mono ?_
      rintro e w1 ⟨rfl, rfl⟩
      go_wp2_with fail
      refine (isNaNV_is y _).mono ?_
      rintro e w1 ⟨rfl, rfl⟩
      go_wp2_with fail
      go_ret
      exact ⟨rfl, rfl⟩
    · have e1 : cmp2 x y = 0 := by unfold cmp2; rw [if_neg h1, if_neg h2]
      rw [e1]
      clear e1
      go_enter Try.func56, Try.ntmps56
      go_wp2_with fail
      refine (isNaNV_is x _).mono ?_
      rintro e w1 ⟨rfl, rfl⟩
      go_wp2_with fail
      refine (isNaNV_is y _).mono ?_
      rintro e w1 ⟨rfl, rfl⟩
      go_wp2_with fail
      go_ret
      exact ⟨rfl, rfl⟩
/-- What slices.Compare says of two lists of one length. -/
def lx : List Int → List Int → Int
  | x :: a, y :: b => if cmp2 x y ≠ 0 then cmp2 x y else lx a b
  | _, _ => 0
theorem cmp2_self (x : Int) : cmp2 x x = 0 := by unfold cmp2; simp
theorem cmp2_zeroV {x y : Int} (h : cmp2 x y = 0) : x = y := by
  unfold cmp2 at h
  split at h
  · omega
  · split at h <;> omega
theorem lx_self : ∀ a, lx a a = 0
  | [] => rfl
  | x :: a => by rw [lx, cmp2_self, if_neg (by simp), lx_self a]
theorem lx_at : ∀ {a b : List Int} {i : Nat} {x y : Int}, a.take i = b.take i → a[i]? = some x → b[i]? = some y → cmp2 x y ≠ 0 → lx a b = cmp2 x y
  | [], _, i, x, y, _, h, _, _ => by simp at h
  | _ :: _, [], i, x, y, _, _, h, _ => by simp at h
  | p :: a, q :: b, 0, x, y, _, h1, h2, h3 => by
    simp at h1 h2
    subst h1 h2
    rw [lx, if_pos h3]
  | p :: a, q :: b, i + 1, x, y, h, h1, h2, h3 => by
    simp only [List.take_succ_cons, List.cons.injEq] at h
    obtain ⟨rfl, h⟩ := h
    rw [lx, cmp2_self, if_neg (by simp)]
    exact lx_at h (by simpa using h1) (by simpa using h2) h3
theorem take_next {a b : List Int} {i : Nat} {x : Int} (h : a.take i = b.take i) (h1 : a[i]? = some x) (h2 : b[i]? = some x) : a.take (i + 1) = b.take (i + 1) := by
  rw [List.take_add_one, List.take_add_one, h, h1, h2]
set_option maxRecDepth 100000 in
theorem compareL_is (g h : Nat) (a b : List Int) (w : World) (h1 : Blk w g 24 (vc a)) (h2 : Blk w h 24 (vc b)) (ha : a.length = 16) (hb : b.length = 16) :
    Calls Try.prog 42 #[.slice (some ⟨g, 0, none⟩) 16 16, .slice (some ⟨h, 0, none⟩) 16 16] w fun e w' => e = .returned (.int .i64 (lx a b)) ∧ w = w' := by
  have H1 := Lib.hid h1
  have H2 := Lib.hid h2
  have HA := Lib.hid ha
  have HB := Lib.hid hb
  clear h1 h2 ha hb
  go_enter Try.func42, Try.ntmps42
  go_wp2_with fail
  go_loopw [11] (fun ii wr => ∃ i : Nat, i ≤ 16 ∧ ii = .int .i64 i ∧ a.take i = b.take i ∧ wr = w) (fun ii _ => 16 - (intOf ii).toNat)
  case atStart => exact ⟨0, Nat.zero_le _, rfl, rfl, rfl⟩
  case round =>
    obtain ⟨i, hi, rfl, ht, rfl⟩ := hrel
    have TT := Lib.hid ht
    clear ht
    by_cases hlt : i < 16
    · obtain ⟨x, hx⟩ : ∃ x, a[i]? = some x := ⟨_, List.getElem?_eq_getElem (by have := HA.out; omega)⟩
      obtain ⟨y, hy⟩ : ∃ y, b[i]? = some y := ⟨_, List.getElem?_eq_getElem (by have := HB.out; omega)⟩
      have c1 := H1.out.cell (vc_at hx)
      have c2 := H2.out.cell (vc_at hy)
      have HX := Lib.hid hx
      have HY := Lib.hid hy
      clear hx hy
      go_wp2_with fail
      refine (compareU_is x y _).mono ?_
      rintro e w1 ⟨rfl, rfl⟩
      by_cases hc : cmp2 x y = 0
      · have EN := Lib.hid (take_next TT.out HX.out (by rw [HY.out, cmp2_zeroV hc]))
        rw [hc]
        go_wp2_with fail
        go_roundw
        case rel => exact ⟨i + 1, by omega, by go_num, EN.out, trivial⟩
        case measure => simp [intOf]; omega
      · have LX := Lib.hid (lx_at TT.out HX.out HY.out hc)
        obtain ⟨z, hz⟩ : ∃ z, cmp2 x y = z := ⟨_, rfl⟩
        rw [hz] at LX hc ⊢
        have hcz : (z == 0) = false := by simp [hc]
        clear hz hc
        go_wp2_with fail
        go_ret
        exact ⟨by rw [LX.out]; rfl, rfl⟩
    · obtain rfl : i = 16 := by omega
      have LX := Lib.hid (show lx a b = 0 by
        have := TT.out
        rw [List.take_of_length_le (by have := HA.out; omega), List.take_of_length_le (by have := HB.out; omega)] at this
        rw [this, lx_self])
      go_wp2_with fail
      go_ret
      exact ⟨by rw [LX.out]; rfl, rfl⟩
set_option maxRecDepth 100000 in
theorem topsCmp_is (a b : List Int) (w : World) (ha : a.length = 16) (hb : b.length = 16) : Calls Try.prog 41 #[.agg (vc a).toArray, .agg (vc b).toArray] w fun e w' => e = .returned (.int .i64 (lx b a)) ∧ Gr w w' := by
  have Q1 := Lib.hid ((blk_alloc w 24 (vc a)).alloc (.cells (vc b).toArray 24))
  have Q2 := Lib.hid (blk2 w (.cells (vc a).toArray 24) 24 (vc b))
  have B0 := Lib.hid (step_ (new_below w (.cells (vc a).toArray 24)) (new_below _ (.cells (vc b).toArray 24)))
  have HA := Lib.hid ha
  have HB := Lib.hid hb
  clear ha hb
  go_enter Try.func41, Try.ntmps41
  go_wp2_with fail
  go_quiet (refine Calls.quiet_of_same ((compareL_is (w.heap.size + 1) w.heap.size b a _ (Q2.out.drewN _) (Q1.out.drewN _) HB.out HA.out).mono fun _ _ hh => ⟨hh.1, hh.2.symm⟩))
  go_wp2
  go_ret
  exact ⟨rfl, below_drewN B0.out _, Nat.le_add_right _ _⟩
end Go.Proofs.Ytihkncnhkljgpaa
