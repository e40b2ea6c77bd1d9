/- The walk of AtomStamps. -/
import Derived.Test.YteggjihhjdeieaaABytes
namespace Go.Proofs.Yteggjihhjdeieaa
open Go.RowKit

set_option maxRecDepth 100000 in
set_option maxHeartbeats 1000000 in
theorem atomStamps_any (n r x : Int) (w : World) (n0 : 0 ≤ n) (n1 : n < 4294967296) (r0 : 0 ≤ r) (r1 : r < 256) (x0 : 0 ≤ x) (x1 : x < 18446744073709551616) :
    Calls Try.prog 4 #[.int .u32 n, .int .u8 r, .int .u64 x] w fun e w' => e = .returned (.bool true) ∧ Below w.heap.size w w' := by
  have w1 : IntKind.u64.wrap n = n := by rw [IntKind.wrap_u64]; omega
  have w2 : IntKind.u64.wrap (n * 256) = n * 256 := by rw [IntKind.wrap_u64]; omega
  have w3 : IntKind.u64.wrap r = r := by rw [IntKind.wrap_u64]; omega
  have w4 : IntKind.u64.wrap (n * 256 + r) = n * 256 + r := by rw [IntKind.wrap_u64]; omega
  have e1 : x.tdiv 256 = x / 256 := Int.tdiv_eq_ediv_of_nonneg x0
  have e2 : IntKind.u64.wrap (x / 256) = x / 256 := by rw [IntKind.wrap_u64]; omega
  have f1 : 0 ≤ x / 256 := by omega
  have g1 : (x / 256).tmod 4294967296 = x / 256 % 4294967296 := Int.tmod_eq_emod_of_nonneg f1
  have g2 : x.tmod 256 = x % 256 := Int.tmod_eq_emod_of_nonneg x0
  have g3 : IntKind.u64.wrap (x / 256 % 4294967296) = x / 256 % 4294967296 := by rw [IntKind.wrap_u64]; omega
  have g4 : IntKind.u64.wrap (x % 256) = x % 256 := by rw [IntKind.wrap_u64]; omega
  have N1 := Lib.hid n1
  have C := Lib.hid (show (n * 256 + r) / 256 % 4294967296 = n from stamp_hi n0 n1 r0 r1)
  have D := Lib.hid (show (n * 256 + r) % 256 = r from stamp_lo r0 r1)
  clear n1 x1
  go_enter Try.func4, Try.ntmps4
  go_wp2_with fail
  refine (unstamp_is x (x / 256 % 4294967296) (x % 256) _ (Lib.hid rfl) (Lib.hid rfl)).mono ?_
  rintro e w1' ⟨rfl, rfl⟩
  go_wp2_with fail
  refine (stamp_is n r (n * 256 + r) _ n0 N1.out r0 r1 (Lib.hid rfl)).mono ?_
  rintro e w1' ⟨rfl, rfl⟩
  go_wp2_with fail
  refine (unstamp_is (n * 256 + r) n r _ C D).mono ?_
  rintro e w1' ⟨rfl, rfl⟩
  go_wp2_with fail
  refine (stamp_is n r (n * 256 + r) _ n0 N1.out r0 r1 (Lib.hid rfl)).mono ?_
  rintro e w1' ⟨rfl, rfl⟩
  go_wp2_with fail
  refine (alive_is _).mono ?_
  rintro e w2' ⟨rfl, b2⟩
  have B2 := Lib.hid b2
  clear b2
  go_wp2_with fail
  go_ret
  exact ⟨rfl, B2.out⟩
end Go.Proofs.Yteggjihhjdeieaa
