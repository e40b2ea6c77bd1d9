/- The contracts of reciprocal and of undo of package mix, and of the function that undo returns. -/
import Derived.Test.YtmdolblcffnkcaaWord
namespace Go.Proofs.Ytmdolblcffnkcaa
open Go.RowKit

def closerI (f r : Int) : Int := IntKind.u64.wrap (r * IntKind.u64.wrap (2 - IntKind.u64.wrap (f * r)))
def recipI (f : Int) : Int := ((M.recip f.toNat : Nat) : Int)
def unstepI (s : Nat) (f y : Int) : Int := ((M.unstep s (M.recip f.toNat) y.toNat : Nat) : Int)
theorem closer_spell (f r : Nat) : closerI f r = ((M.closer f r : Nat) : Int) := by
  unfold closerI M.closer
  rw [← Int.natCast_mul, wrap_nat]
  have e : IntKind.u64.wrap (2 - ((f * r % 2 ^ 64 : Nat) : Int)) = (((2 + (2 ^ 64 - f * r % 2 ^ 64)) % 2 ^ 64 : Nat) : Int) := by
    rw [IntKind.wrap_u64]; generalize f * r = m; omega
  rw [e, ← Int.natCast_mul, wrap_nat]
theorem recip_spell (f : Int) (hf : 0 ≤ f) : closerI f (closerI f (closerI f (closerI f (closerI f f)))) = recipI f := by
  obtain ⟨g, rfl⟩ := Int.eq_ofNat_of_zero_le hf
  rw [closer_spell, closer_spell, closer_spell, closer_spell, closer_spell, recipI, Int.toNat_natCast, M.recip]
theorem recipI_nonneg (f : Int) : 0 ≤ recipI f := by unfold recipI; omega
theorem unstepI_U64 (s : Nat) (f y : Int) : U64 (unstepI s f y) := of_lt (M.unstep_lt ..)
theorem unstep_spell (s : Nat) (f y z : Int) (hy : U64 y) (hz : IntKind.u64.wrap (y * recipI f) = z) : xorI (xorI z (z / 2 ^ s)) (z / 2 ^ (2 * s)) = unstepI s f y := by
  have hzU : U64 z := by rw [← hz]; exact wrap_U64 _
  have e : z = ((y.toNat * M.recip f.toNat % 2 ^ 64 : Nat) : Int) := by
    rw [← hz, ← wrap_nat, Int.natCast_mul, Int.toNat_of_nonneg hy.1]; rfl
  rw [xorI, xorI, unstepI, M.unstep, M.up, div_nat z s hzU.1, div_nat z (2 * s) hzU.1, Int.toNat_natCast, Int.toNat_natCast, Int.toNat_natCast]
  rw [show z.toNat = y.toNat * M.recip f.toNat % 2 ^ 64 by omega]
theorem reciprocal_is (f r : Int) (w : World) (hf : 0 ≤ f) (hr : Hid (recipI f = r)) :
    Calls Try.prog 28 #[.int .u64 f] w fun e w' => e = .returned (.int .u64 r) ∧ w = w' := by
  obtain ⟨r1, h1⟩ : ∃ a, closerI f f = a := ⟨_, rfl⟩
  obtain ⟨r2, h2⟩ : ∃ a, closerI f r1 = a := ⟨_, rfl⟩
  obtain ⟨r3, h3⟩ : ∃ a, closerI f r2 = a := ⟨_, rfl⟩
  obtain ⟨r4, h4⟩ : ∃ a, closerI f r3 = a := ⟨_, rfl⟩
  have h5 : closerI f r4 = r := by rw [← h4, ← h3, ← h2, ← h1, recip_spell f hf]; exact hr.out
  unfold closerI at h1 h2 h3 h4 h5
  have k1 := Lib.hid h1
  have k2 := Lib.hid h2
  have k3 := Lib.hid h3
  have k4 := Lib.hid h4
  have k5 := Lib.hid h5
  clear h1 h2 h3 h4 h5 hr
  go_enter Try.func28, Try.ntmps28
  go_wp2_with fail
  refine wp_loop_rounds 6 ?_
  rw [rounds_succ]
  go_wp2_with fail
  rw [k1.out, rounds_succ]
  go_wp2_with fail
  rw [k2.out, rounds_succ]
  go_wp2_with fail
  rw [k3.out, rounds_succ]
  go_wp2_with fail
  rw [k4.out, rounds_succ]
  go_wp2_with fail
  rw [k5.out, rounds_succ]
  go_wp2_with fail
  go_ret
  exact ⟨rfl, rfl⟩
theorem undo1_is (s : Nat) (f g y r : Int) (w : World) (B C : Nat) (hs : 2 * s < 64) (hs3 : 64 ≤ 3 * s) (hy : U64 y) (hg : Hid (recipI f = g)) (hr : Hid (unstepI s f y = r))
    (hB : w.cell? ⟨B, 0, none⟩ = some (.int .u64 g)) (hC : w.cell? ⟨C, 0, none⟩ = some (.int .u64 s)) :
    Calls Try.prog 29 #[.int .u64 y, .pointer (some ⟨B, 0, none⟩), .pointer (some ⟨C, 0, none⟩)] w fun e w' => e = .returned (.int .u64 r) ∧ w = w' := by
  obtain ⟨z, hz⟩ : ∃ z, IntKind.u64.wrap (y * g) = z := ⟨_, rfl⟩
  have hzU : U64 z := by rw [← hz]; exact wrap_U64 _
  have hd1 := div_U64 z s hzU.1 hzU.2
  have hd2 := div_U64 z (2 * s) hzU.1 hzU.2
  have h1 := xor_spell z (z / 2 ^ s) hzU hd1
  have h2 := xor_spell _ (z / 2 ^ (2 * s)) (xorI_U64 hzU hd1) hd2
  have h3 := unstep_spell s f y z hy (by rw [hg.out]; exact hz)
  rw [h3, hr.out] at h2
  obtain ⟨v, hv⟩ : ∃ v, xorI z (z / 2 ^ s) = v := ⟨_, rfl⟩
  rw [hv] at h1 h2
  have k0 := Lib.hid hz
  have k1 := Lib.hid h1
  have k2 := Lib.hid h2
  clear hz h1 h2 h3 hv hd1 hd2 hr hg
  obtain ⟨hz0, hz1⟩ := hzU
  have s1 : (s : Int) < 64 := by omega
  have s2 : (s : Int) + s < 64 := by omega
  have s3 : ¬ (s : Int) + s + s < 64 := by omega
  go_enter Try.func29, Try.ntmps29
  go_wp2_with fail
  rw [k0.out]
  refine wp_loop_rounds 3 ?_
  rw [rounds_succ]
  go_wp2_with fail
  rw [k1.out, rounds_succ]
  go_wp2_with fail
  rw [rounds_succ]
  go_wp2_with fail
  go_ret
  exact ⟨ret_int (by rw [show s + s = 2 * s by omega]; exact k2.out), rfl⟩
theorem undo_is (s : Nat) (f g : Int) (w : World) (hf : 0 ≤ f) (hg : Hid (recipI f = g)) :
    Calls Try.prog 19 #[stepV s f] w fun e w' => e = .returned (.func (.func 29) #[] #[.pointer (some ⟨w.heap.size + 1, 0, none⟩), .pointer (some ⟨w.heap.size, 0, none⟩)]) ∧ w' = (w.alloc (.cells #[.int .u64 s, .int .u64 f] 37)).alloc (.cells #[.int .u64 g] 22) := by
  go_enter Try.func19, Try.ntmps19
  go_wp2_with fail
  refine (reciprocal_is f g _ hf hg).mono ?_
  rintro e w' ⟨rfl, rfl⟩
  go_wp2_with fail
  go_ret
  exact ⟨rfl, rfl⟩
theorem backward_is (a : Option Addr) (n c : Nat) (w : World) :
    Calls Try.prog 18 #[.slice a n c] w fun e w' => e = .returned (.func (.func 27) #[] #[.pointer (some ⟨w.heap.size, 0, none⟩)]) ∧ w' = w.alloc (.cells #[.slice a n c] 44) := by
  go_enter Try.func18, Try.ntmps18
  go_wp2_with fail
  go_ret
  exact ⟨rfl, rfl⟩
end Go.Proofs.Ytmdolblcffnkcaa
