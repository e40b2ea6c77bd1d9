/- The walk of MixSums. -/
import Derived.Test.YtmdolblcffnkcaaLaws
import Derived.Test.YtmdolblcffnkcaaRefSum
namespace Go.Proofs.Ytmdolblcffnkcaa
open Go.RowKit

theorem mixSums_big (seed n : Int) (a : Option Addr) (len cap : Nat) (w : World) (h : 200 < len) :
    Calls Try.prog 4 #[.int .u64 seed, .slice a len cap, .int .i64 n] w fun e w' => e = .returned (.bool true) ∧ Below w.heap.size w w' := by
  have b1 : (200 : Int) < len := by omega
  go_enter Try.func4, Try.ntmps4
  go_wp2_with fail
  refine (alive_is _).mono ?_
  rintro e w6 ⟨rfl, b6⟩
  go_wp2_with fail
  go_ret
  exact ⟨rfl, b6⟩
theorem mixSums_is (seed n : Int) (v : Value) (l : List Int) (w : World) (hs : U64 seed) (hn : n ≤ 9223372036854775807) (hb : BytesAt w v l) :
    Calls Try.prog 4 #[.int .u64 seed, v, .int .i64 n] w fun e w' => e = .returned (.bool true) ∧ Below w.heap.size w w' := by
  have hb0 := hb
  obtain ⟨a, cap, rfl, _, _, _⟩ := hb0
  by_cases h : 200 < l.length
  · exact mixSums_big seed n a l.length cap w h
  · obtain ⟨r, hr⟩ : ∃ r, sumI seed l = r := ⟨_, rfl⟩
    obtain ⟨m, hmm⟩ : ∃ m, belowI seed n = m := ⟨_, rfl⟩
    have kr := Lib.hid hr
    have km := Lib.hid hmm
    clear hr hmm
    have b1 : ¬ (200 : Int) < l.length := by omega
    go_enter Try.func4, Try.ntmps4
    go_wp2_with fail
    refine (sum_is seed r _ l _ hs (by omega) hb kr).mono ?_
    rintro e w1 ⟨rfl, b1⟩
    go_wp2_with fail
    refine (refSum_is seed r _ l _ hs (by omega) (hb.below b1) kr).mono ?_
    rintro e w2 ⟨rfl, b2⟩
    go_wp2_with fail
    refine (below_is seed n m _ hs hn km).mono ?_
    rintro e w' ⟨rfl, rfl⟩
    go_wp2_with fail
    refine (refBelow_is seed n m _ hs hn km).mono ?_
    rintro e w' ⟨rfl, rfl⟩
    go_wp2_with fail
    refine (alive_is _).mono ?_
    rintro e w3 ⟨rfl, b3⟩
    go_wp2_with fail
    go_ret
    exact ⟨rfl, Below.on (Below.on b1 (Nat.le_refl _) b2) (Nat.le_refl _) b3⟩
end Go.Proofs.Ytmdolblcffnkcaa
