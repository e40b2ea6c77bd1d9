/- The walks of alive and of MixWords. -/
import Derived.Test.YtmdolblcffnkcaaUnword
namespace Go.Proofs.Ytmdolblcffnkcaa
open Go.RowKit

theorem Below.on {n : Nat} {w a b : World} (h : Below n w a) (hn : n ≤ w.heap.size) (k : Below a.heap.size a b) : Below n w b := h.trans (k.mono (Nat.le_trans hn h.size))
theorem zero_word : wordI 0 0 = mixI 11400714819323198485 := by
  rw [wordI_is]
  rw [show IntKind.u64.wrap (xorI 0 0 + 11400714819323198485) = 11400714819323198485 by decide +kernel]
theorem unword_back (seed x : Int) (hs : U64 seed) (hx : U64 x) : unwordI seed (wordI seed x) = x := by
  rw [unwordI, wordI, Int.toNat_natCast, M.unword_word _ _ (toNat_lt hs) (toNat_lt hx), Int.toNat_of_nonneg hx.1]
theorem word_back (seed x : Int) (hx : U64 x) : wordI seed (unwordI seed x) = x := by
  rw [unwordI, wordI, Int.toNat_natCast, M.word_unword _ _ (toNat_lt hx), Int.toNat_of_nonneg hx.1]
theorem u64_lit (n : Int) (h0 : 0 ≤ n) (h1 : n < 18446744073709551616) : U64 n := ⟨h0, h1⟩
theorem alive_is (w : World) : Calls Try.prog 9 #[] w fun e w' => e = .returned (.bool true) ∧ Below w.heap.size w w' := by
  obtain ⟨a, ha⟩ : ∃ a, wordI 0 0 = a := ⟨_, rfl⟩
  obtain ⟨b, hb⟩ : ∃ b, wordI 5 77 = b := ⟨_, rfl⟩
  have hbU : U64 b := by rw [← hb]; exact wordI_U64 ..
  have k1 := Lib.hid ha
  have k2 := Lib.hid (zero_word.symm.trans ha)
  have k3 := Lib.hid hb
  have k4 := Lib.hid (show unwordI 5 b = 77 by rw [← hb]; exact unword_back 5 77 (u64_lit 5 (by omega) (by omega)) (u64_lit 77 (by omega) (by omega)))
  clear ha hb
  go_enter Try.func9, Try.ntmps9
  go_wp2_with fail
  refine (word_is 0 0 a _ (u64_lit 0 (by omega) (by omega)) (u64_lit 0 (by omega) (by omega)) k1).mono ?_
  rintro e w1 ⟨rfl, b1⟩
  go_wp2_with fail
  refine (refStir_is 11400714819323198485 a _ (u64_lit _ (by omega) (by omega)) k2).mono ?_
  rintro e w' ⟨rfl, rfl⟩
  go_wp2_with fail
  refine (word_is 5 77 b _ (u64_lit 5 (by omega) (by omega)) (u64_lit 77 (by omega) (by omega)) k3).mono ?_
  rintro e w2 ⟨rfl, b2⟩
  go_wp2_with fail
  refine (unword_is 5 b 77 _ (u64_lit 5 (by omega) (by omega)) hbU k4).mono ?_
  rintro e w3 ⟨rfl, b3⟩
  go_wp2_with fail
  refine (below_is 9 4 1 _ (u64_lit 9 (by omega) (by omega)) (by omega) (Lib.hid (by decide))).mono ?_
  rintro e w' ⟨rfl, rfl⟩
  go_wp2_with fail
  go_ret
  exact ⟨rfl, Below.on (Below.on b1 (Nat.le_refl _) b2) (Nat.le_refl _) b3⟩
theorem mixWords_is (seed x : Int) (w : World) (hs : U64 seed) (hx : U64 x) :
    Calls Try.prog 3 #[.int .u64 seed, .int .u64 x] w fun e w' => e = .returned (.bool true) ∧ Below w.heap.size w w' := by
  obtain ⟨a, ha⟩ : ∃ a, wordI seed x = a := ⟨_, rfl⟩
  obtain ⟨b, hb⟩ : ∃ b, unwordI seed x = b := ⟨_, rfl⟩
  have haU : U64 a := by rw [← ha]; exact wordI_U64 ..
  have hbU : U64 b := by rw [← hb]; exact unwordI_U64 _ _ hs
  have k1 := Lib.hid ha
  have k2 := Lib.hid (show unwordI seed a = x by rw [← ha]; exact unword_back seed x hs hx)
  have k3 := Lib.hid hb
  have k4 := Lib.hid (show wordI seed b = x by rw [← hb]; exact word_back seed x hx)
  clear ha hb
  go_enter Try.func3, Try.ntmps3
  go_wp2_with fail
  refine (word_is seed x a _ hs hx k1).mono ?_
  rintro e w1 ⟨rfl, b1⟩
  go_wp2_with fail
  refine (refWord_is seed x a _ hs hx k1).mono ?_
  rintro e w' ⟨rfl, rfl⟩
  go_wp2_with fail
  refine (word_is seed x a _ hs hx k1).mono ?_
  rintro e w2 ⟨rfl, b2⟩
  go_wp2_with fail
  refine (unword_is seed a x _ hs haU k2).mono ?_
  rintro e w3 ⟨rfl, b3⟩
  go_wp2_with fail
  refine (unword_is seed x b _ hs hx k3).mono ?_
  rintro e w4 ⟨rfl, b4⟩
  go_wp2_with fail
  refine (word_is seed b x _ hs hbU k4).mono ?_
  rintro e w5 ⟨rfl, b5⟩
  go_wp2_with fail
  refine (alive_is _).mono ?_
  rintro e w6 ⟨rfl, b6⟩
  go_wp2_with fail
  go_ret
  exact ⟨rfl, Below.on (Below.on (Below.on (Below.on (Below.on b1 (Nat.le_refl _) b2) (Nat.le_refl _) b3) (Nat.le_refl _) b4) (Nat.le_refl _) b5) (Nat.le_refl _) b6⟩
end Go.Proofs.Ytmdolblcffnkcaa
