/- Single dots: Halves, Undot, valid, isUnder, isNear, and the reference's May. -/
import Derived.Test.YtpgafijeecmgmaaSets
namespace Go.Proofs.Ytpgafijeecmgmaa
open Go.RowKit

theorem halves_is (x a b : Int) (w : World) (h0 : 0 ≤ x) (h1 : x < 18446744073709551616) (ha : Hid (x / 4294967296 = a)) (hb : Hid (x % 4294967296 = b)) :
    Calls Try.prog 47 #[.int .u64 x] w fun e w' => e = .returned (.tuple #[.int .u32 a, .int .u32 b]) ∧ w = w' := by
  go_enter Try.func47, Try.ntmps47
  go_wp2
  go_ret2
  exact ⟨ret_ints ha.out hb.out, rfl⟩
theorem undot_is (x a b : Int) (w : World) (h0 : 0 ≤ x) (h1 : Hid (x < 18446744073709551616)) (ha : Hid (x / 4294967296 % 256 = a)) (hb : Hid (x % 4294967296 = b)) :
    Calls Try.prog 39 #[.int .u64 x] w fun e w' => e = .returned (.tuple #[.int .u8 a, .int .u32 b]) ∧ w = w' := by
  go_enter Try.func39, Try.ntmps39
  go_wp2_with fail
  refine (halves_is x (x / 4294967296) b _ h0 h1.out (Lib.hid rfl) hb).mono ?_
  rintro e w1 ⟨rfl, rfl⟩
  go_wp2_with fail
  go_ret2
  refine ⟨?_, rfl⟩
  rw [← ha.out]
  rfl
/-- The key of a dot. -/
def kdot (a b : Int) : Ky := ⟨0, 0, M.zero8, a, b⟩
theorem built_kdot (a b : Int) : Try.prog.built 75 [(3, .int .u8 a), (4, .int .u32 b)] = some (kdot a b).cells.toArray := by kernel_rfl
theorem kdot_ok {a b : Int} (h0 : 0 ≤ a) (h1 : a < 256) (h2 : 0 ≤ b) (h3 : b < 4294967296) : (kdot a b).Ok := ⟨rfl, zero8_bytes, (by decide : (0 : Int) ≤ 0), (by decide : (0 : Int) < 256), (by decide : (0 : Int) ≤ 0), (by decide : (0 : Int) < 65536), h0, h1, h2, h3⟩
set_option maxRecDepth 100000 in
theorem valid_is (x : Int) (r : Bool) (w : World) (h : 0 ≤ x ∧ x < 18446744073709551616) (hr : Hid (may x = r)) :
    Calls Try.prog 29 #[.int .u64 x] w fun e w' => e = .returned (.bool r) ∧ Below w.heap.size w w' := by
  obtain ⟨a, ha⟩ : ∃ a, x / 4294967296 % 256 = a := ⟨_, rfl⟩
  obtain ⟨b, hb⟩ : ∃ b, x % 4294967296 = b := ⟨_, rfl⟩
  have HX := Lib.hid h
  have h0 := h.1
  have HA := Lib.hid ha
  have HB := Lib.hid hb
  have a0 : 0 ≤ a := by omega
  have a1 : a < 256 := by omega
  have b0 : 0 ≤ b := by omega
  have b1 : b < 4294967296 := by omega
  clear h ha hb
  by_cases c1 : a < 16
  · have c1' : decide (a < 16) = true := by simp [c1]
    by_cases c2 : 0 < b
    · have c2' : decide (0 < b) = true := by simp [c2]
      have KO := Lib.hid (kdot_ok a0 a1 b0 b1)
      have e3 : (a * 4294967296 + b == x) = r := by
        have := HX.out; have := HA.out; have := HB.out
        rw [← hr.out, Bool.eq_iff_iff, beq_iff_eq, may_iff]; omega
      go_enter Try.func29, Try.ntmps29
      go_wp2_with fail
      refine (undot_is x a b w h0 (Lib.hid HX.out.2) HA HB).mono ?_
      rintro e w1 ⟨rfl, rfl⟩
      go_wp2_with (refine wpList_build rfl 75 _ rfl [(3, .int .u8 a), (4, .int .u32 b)] rfl _ (built_kdot a b) ?_)
      refine (dot_is (kdot a b) w KO.out).mono ?_
      rintro e w1 ⟨rfl, hb1⟩
      have B1 := Lib.hid hb1
      have ew : (kdot a b).w2 = a * 4294967296 + b := rfl
      rw [ew]
      clear hb1
      go_wp2_with fail
      go_ret
      exact ⟨rfl, B1.out⟩
    · have e3 := Lib.hid (show false = r from by
        have := HX.out; have := HA.out; have := HB.out
        rw [← hr.out, Bool.eq_iff_iff, may_iff]; simp; omega)
      have c2' : decide (0 < b) = false := by simp [c2]
      go_enter Try.func29, Try.ntmps29
      go_wp2_with fail
      refine (undot_is x a b w h0 (Lib.hid HX.out.2) HA HB).mono ?_
      rintro e w1 ⟨rfl, rfl⟩
      go_wp2_with fail
      go_ret
      exact ⟨ret_bool e3.out, Below.refl _ _⟩
  · have e3 := Lib.hid (show false = r from by
      have := HX.out; have := HA.out; have := HB.out
      rw [← hr.out, Bool.eq_iff_iff, may_iff]; simp; omega)
    have c1' : decide (a < 16) = false := by simp [c1]
    go_enter Try.func29, Try.ntmps29
    go_wp2_with fail
    refine (undot_is x a b w h0 (Lib.hid HX.out.2) HA HB).mono ?_
    rintro e w1 ⟨rfl, rfl⟩
    go_wp2_with fail
    go_ret
    exact ⟨ret_bool e3.out, Below.refl _ _⟩
set_option maxRecDepth 100000 in
theorem under_is (f : List Int) (x : Int) (r : Bool) (w : World) (hf : VOk f) (h : 0 ≤ x ∧ x < 18446744073709551616) (hm : may x = true) (hr : Hid (und f x = r)) :
    Calls Try.prog 31 #[.agg (vc f).toArray, .int .u64 x] w fun e w' => e = .returned (.bool r) ∧ Below w.heap.size w w' := by
  have hm := may_iff.1 hm
  obtain ⟨k, hk⟩ : ∃ k : Nat, (x / 4294967296).toNat = k := ⟨_, rfl⟩
  obtain ⟨b, hb⟩ : ∃ b, x % 4294967296 = b := ⟨_, rfl⟩
  obtain ⟨y, hy⟩ : ∃ y, f.getD k 0 = y := ⟨_, rfl⟩
  have HX := Lib.hid h
  have h0 := h.1
  have HA := Lib.hid (show x / 4294967296 % 256 = (k : Int) by omega)
  have HB := Lib.hid hb
  have hk16 : k < 16 := by omega
  have hx' : f[k]? = some y := by rw [← hy, getD_at (by rw [hf.len]; exact hk16)]; exact List.getElem?_eq_getElem _
  have ca := (blk_alloc w 31 (vc f)).cell (vc_at hx')
  have B0 := Lib.hid (new_below w (.cells (vc f).toArray 31))
  have e3 : decide (b ≤ y) = r := by rw [← hr.out]; unfold und; rw [hb, hk, hy]
  clear h hm hk hb hy hx' hf
  go_enter Try.func31, Try.ntmps31
  go_wp2_with fail
  refine (undot_is x k b _ h0 (Lib.hid HX.out.2) HA HB).mono ?_
  rintro e w1 ⟨rfl, rfl⟩
  go_wp2_with fail
  go_ret
  exact ⟨rfl, B0.out⟩
set_option maxRecDepth 100000 in
theorem near_is (f : List Int) (x : Int) (r : Bool) (w : World) (hf : VOk f) (h : 0 ≤ x ∧ x < 18446744073709551616) (hm : may x = true) (hr : Hid (near f x = r)) :
    Calls Try.prog 30 #[.agg (vc f).toArray, .int .u64 x] w fun e w' => e = .returned (.bool r) ∧ Below w.heap.size w w' := by
  have hm := may_iff.1 hm
  obtain ⟨k, hk⟩ : ∃ k : Nat, (x / 4294967296).toNat = k := ⟨_, rfl⟩
  obtain ⟨b, hb⟩ : ∃ b, x % 4294967296 = b := ⟨_, rfl⟩
  obtain ⟨y, hy⟩ : ∃ y, f.getD k 0 = y := ⟨_, rfl⟩
  have HX := Lib.hid h
  have h0 := h.1
  have HA := Lib.hid (show x / 4294967296 % 256 = (k : Int) by omega)
  have HB := Lib.hid hb
  have hk16 : k < 16 := by omega
  have hyr := hf.at k
  rw [hy] at hyr
  have hx' : f[k]? = some y := by rw [← hy, getD_at (by rw [hf.len]; exact hk16)]; exact List.getElem?_eq_getElem _
  have ca := (blk_alloc w 31 (vc f)).cell (vc_at hx')
  have B0 := Lib.hid (new_below w (.cells (vc f).toArray 31))
  have e3 : (decide (b ≤ y) || decide (b - y = 1)) = r := by rw [← hr.out]; unfold near und; rw [hb, hk, hy]
  have hb1 : b < 4294967296 := by omega
  have hb0 : 0 ≤ b := by omega
  clear h hm hk hb hy hx' hf
  by_cases c : b ≤ y
  · have e4 := Lib.hid (show true = r from by rw [← e3]; simp [c])
    have c' : decide (b ≤ y) = true := by simp [c]
    clear e3
    go_enter Try.func30, Try.ntmps30
    go_wp2_with fail
    refine (undot_is x k b _ h0 (Lib.hid HX.out.2) HA HB).mono ?_
    rintro e w1 ⟨rfl, rfl⟩
    go_wp2_with fail
    go_ret
    exact ⟨ret_bool e4.out, B0.out⟩
  · have hw : IntKind.u32.wrap (b - y) = b - y := by rw [IntKind.wrap_u32]; omega
    have e4 := Lib.hid (show (b - y == 1) = r from by rw [← e3, Bool.eq_iff_iff]; simp [c])
    have c' : decide (b ≤ y) = false := by simp [c]
    clear e3
    go_enter Try.func30, Try.ntmps30
    go_wp2_with fail
    refine (undot_is x k b _ h0 (Lib.hid HX.out.2) HA HB).mono ?_
    rintro e w1 ⟨rfl, rfl⟩
    go_wp2_with fail
    go_ret
    exact ⟨ret_bool e4.out, B0.out⟩
theorem may_is (x : Int) (r : Bool) (w : World) (h : 0 ≤ x ∧ x < 18446744073709551616) (hr : Hid (may x = r)) :
    Calls Try.prog 25 #[.int .u64 x] w fun e w' => e = .returned (.bool r) ∧ w = w' := by
  have h0 := h.1
  have hq : Int.tdiv x 4294967296 = x / 4294967296 := Int.tdiv_eq_ediv_of_nonneg h0
  have hm : Int.tmod x 4294967296 = x % 4294967296 := Int.tmod_eq_emod_of_nonneg h0
  obtain ⟨a, ha⟩ : ∃ a, x / 4294967296 = a := ⟨_, rfl⟩
  obtain ⟨b, hb⟩ : ∃ b, x % 4294967296 = b := ⟨_, rfl⟩
  have a0 : IntKind.u64.wrap a = a := by rw [IntKind.wrap_u64]; omega
  have b0 : IntKind.u64.wrap b = b := by rw [IntKind.wrap_u64]; omega
  have e3 : (decide (a < 16) && decide (0 < b)) = r := by rw [← hr.out]; unfold may; rw [ha, hb, decide_eq_true h0, Bool.true_and]
  rw [ha] at hq
  rw [hb] at hm
  clear ha hb h
  by_cases c1 : a < 16
  · have e4 := Lib.hid (show decide (0 < b) = r from by rw [← e3]; simp [c1])
    clear e3
    go_enter Try.func25, Try.ntmps25
    go_wp2_with fail
    go_ret
    exact ⟨ret_bool e4.out, rfl⟩
  · have e4 := Lib.hid (show false = r from by rw [← e3]; simp [c1])
    have c1' : decide (a < 16) = false := by simp [c1]
    clear e3
    go_enter Try.func25, Try.ntmps25
    go_wp2_with fail
    go_ret
    exact ⟨ret_bool e4.out, rfl⟩
end Go.Proofs.Ytpgafijeecmgmaa
