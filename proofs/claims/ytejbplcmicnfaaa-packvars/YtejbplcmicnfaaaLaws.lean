/- The walks of alive, PackPuts and PackVars. -/
import Derived.Test.YtejbplcmicnfaaaRefs
import Derived.Test.YtejbplcmicnfaaaRefUnvar
namespace Go.Proofs.Ytejbplcmicnfaaa
open Go.RowKit

theorem step_ {w a b : World} (h : Below w.heap.size w a) (k : Below a.heap.size a b) : Below w.heap.size w b := h.trans (k.mono h.size)
theorem made_ {w a : World} (h : Below w.heap.size w a) (o : Obj) : Below w.heap.size w (a.alloc o) := h.alloc h.size o
theorem bytes_two (w : World) (c d : Int) (h0 : 0 ≤ c) (h1 : c < 256) (h2 : 0 ≤ d) (h3 : d < 256) : BytesAt (w.alloc (.cells #[.int .u8 c, .int .u8 d] 5)) (.slice (some ⟨w.heap.size, 0, none⟩) 2 2) [c, d] :=
  bytes_of_owns (B := w.heap.size) (World.ownsRow_lit w #[.int .u8 c, .int .u8 d] 2 (Nat.le_refl _) (by decide) rfl) (fun y hy => by
    rcases List.mem_cons.1 hy with rfl | hy
    · exact ⟨h0, h1⟩
    · obtain rfl := List.mem_singleton.1 hy; exact ⟨h2, h3⟩)
theorem var300 : M.var 300 = [172, 2] := by rw [M.var_ge 300 (by omega), M.var_lt _ (by decide) (by decide)]; decide
set_option maxRecDepth 100000 in
set_option maxHeartbeats 400000 in
theorem alive_is (w : World) : Calls Try.prog 6 #[] w fun e w' => e = .returned (.bool true) ∧ Below w.heap.size w w' := by
  go_enter Try.func6, Try.ntmps6
  go_wp2_with fail
  refine (unvar_is _ [128, 0] 0 0 3 _ (bytes_two w 128 0 (by omega) (by omega) (by omega) (by omega)) (by simp) (Lib.hid (by simp [M.unv]))).mono ?_
  rintro e w1 ⟨rfl, rfl⟩
  have B1 := Lib.hid (made_ (Below.refl w.heap.size w) (.cells #[.int .u8 128, .int .u8 0] 5))
  go_wp2_with fail
  refine (var_is 300 _ (by omega) (by omega)).mono ?_
  rintro e w2 ⟨v2, rfl, hv2, hb2⟩
  rw [var300] at hv2
  have B2 := Lib.hid (step_ B1.out hb2)
  have V2 := Lib.hid hv2
  clear hv2 hb2
  go_wp2_with fail
  refine (same_any _ _ [172, 2] _ (by simp) (V2.out.below ((Below.refl _ _).alloc (Nat.le_refl _) _)) (bytes_two w2 172 2 (by omega) (by omega) (by omega) (by omega))).mono ?_
  rintro e w3 ⟨rfl, hb3⟩
  have B3 := Lib.hid (step_ (made_ B2.out _) hb3)
  clear hb3
  go_wp2_with fail
  refine (put_is 1 8 _).mono ?_
  rintro e w4 ⟨v4, rfl, ⟨a4, c4, hv4, _⟩, hb4⟩
  rw [show (putOf 1 8).length = 8 from M.put_len 1 8] at hv4
  subst hv4
  have B4 := Lib.hid (step_ B3.out hb4)
  clear hb4
  go_wp2_with fail
  go_ret
  exact ⟨rfl, B4.out⟩
set_option maxRecDepth 100000 in
set_option maxHeartbeats 1000000 in
theorem packPuts_any (x n : Int) (v : Value) (l : List Int) (w : World) (h0 : 0 ≤ x) (h1 : x < 18446744073709551616) (hv : BytesAt w v l) :
    Calls Try.prog 3 #[.int .u64 x, .int .i64 n, v] w fun e w' => e = .returned (.bool true) ∧ Below w.heap.size w w' := by
  have HV := Lib.hid hv
  obtain ⟨a, cap, rfl, _⟩ := hv
  by_cases hl : 100 < l.length
  · clear HV
    go_enter Try.func3, Try.ntmps3
    go_wp2_with fail
    refine (alive_is _).mono ?_
    rintro e w' ⟨rfl, hb⟩
    have HB := Lib.hid hb
    clear hb
    go_wp2_with fail
    go_ret
    exact ⟨rfl, HB.out⟩
  · have hl100 : l.length ≤ 100 := by omega
    obtain ⟨r1, r2, hr⟩ : ∃ r1 r2, getOf l = (r1, r2) := ⟨_, _, rfl⟩
    have HR := Lib.hid hr
    obtain ⟨b, hf⟩ : ∃ b, fitsB x n = b := ⟨_, rfl⟩
    have HF := Lib.hid hf
    clear hr hf
    go_enter Try.func3, Try.ntmps3
    go_wp2_with fail
    refine (get_is _ l r1 r2 _ HV.out (by omega) HR).mono ?_
    rintro e w1 ⟨rfl, rfl⟩
    go_wp2_with fail
    refine (refGet_is _ l r1 r2 _ HV.out (by omega) HR).mono ?_
    rintro e w1 ⟨rfl, rfl⟩
    go_wp2_with fail
    refine (put_is x n _).mono ?_
    rintro e w2 ⟨v2, rfl, hv2, hb2⟩
    have V2 := Lib.hid hv2
    have B2 := Lib.hid hb2
    clear hv2 hb2
    go_wp2_with fail
    refine (refPut_is x n _ h0 h1).mono ?_
    rintro e w3 ⟨v3, rfl, hv3, hb3⟩
    have V2b := Lib.hid (V2.out.below hb3)
    have V3 := Lib.hid hv3
    have B3 := Lib.hid (step_ B2.out hb3)
    clear hv3 hb3
    have hlen := putOf_len x n
    go_wp2_with fail
    refine (same_any _ _ (putOf x n) _ (by omega) V2b.out V3.out).mono ?_
    rintro e w4 ⟨rfl, hb4⟩
    have B4 := Lib.hid (step_ B3.out hb4)
    clear hb4
    go_wp2_with fail
    refine (fits_is x n b _ h0 h1 HF).mono ?_
    rintro e w5 ⟨rfl, rfl⟩
    go_wp2_with fail
    refine (refFits_is x n b _ h0 h1 HF).mono ?_
    rintro e w5 ⟨rfl, rfl⟩
    go_wp2_with fail
    refine (alive_is _).mono ?_
    rintro e w6 ⟨rfl, hb6⟩
    have B6 := Lib.hid (step_ B4.out hb6)
    clear hb6
    go_wp2_with fail
    go_ret
    exact ⟨rfl, B6.out⟩
set_option maxRecDepth 100000 in
set_option maxHeartbeats 1000000 in
theorem packVars_any (x : Int) (v : Value) (l : List Int) (w : World) (h0 : 0 ≤ x) (h1 : x < 18446744073709551616) (hv : BytesAt w v l) :
    Calls Try.prog 4 #[.int .u64 x, v] w fun e w' => e = .returned (.bool true) ∧ Below w.heap.size w w' := by
  have HV := Lib.hid hv
  obtain ⟨a, cap, rfl, _⟩ := hv
  by_cases hl : 100 < l.length
  · clear HV
    go_enter Try.func4, Try.ntmps4
    go_wp2_with fail
    refine (alive_is _).mono ?_
    rintro e w' ⟨rfl, hb⟩
    have HB := Lib.hid hb
    clear hb
    go_wp2_with fail
    go_ret
    exact ⟨rfl, HB.out⟩
  · have hl100 : l.length ≤ 100 := by omega
    obtain ⟨r1, r2, r3, hr⟩ : ∃ r1 r2 r3, M.unv l 0 0 = (r1, r2, r3) := ⟨_, _, _, rfl⟩
    have HR := Lib.hid hr
    obtain ⟨m, hm⟩ : ∃ m, (M.var x).length = m := ⟨_, rfl⟩
    have hm10 : m ≤ 10 := by rw [← hm]; exact M.var_ten x h0 h1
    have HM := Lib.hid hm
    clear hr hm
    go_enter Try.func4, Try.ntmps4
    go_wp2_with fail
    refine (unvar_is _ l r1 r2 r3 _ HV.out (by omega) HR).mono ?_
    rintro e w1 ⟨rfl, rfl⟩
    go_wp2_with fail
    refine (refUnvar_is _ l r1 r2 r3 _ HV.out HR).mono ?_
    rintro e w1 ⟨rfl, rfl⟩
    go_wp2_with fail
    refine (var_is x _ h0 h1).mono ?_
    rintro e w2 ⟨v2, rfl, hv2, hb2⟩
    have V2 := Lib.hid hv2
    have B2 := Lib.hid hb2
    clear hv2 hb2
    go_wp2_with fail
    refine (refVar_is x _ h0 h1).mono ?_
    rintro e w3 ⟨v3, rfl, hv3, hb3⟩
    have V2b := Lib.hid (V2.out.below hb3)
    have V3 := Lib.hid hv3
    have B3 := Lib.hid (step_ B2.out hb3)
    clear hv3 hb3
    go_wp2_with fail
    refine (same_any _ _ (M.var x) _ (by have := HM.out; omega) V2b.out V3.out).mono ?_
    rintro e w4 ⟨rfl, hb4⟩
    have B4 := Lib.hid (step_ B3.out hb4)
    clear hb4
    go_wp2_with fail
    refine (size_is x m _ h0 h1 HM hm10).mono ?_
    rintro e w5 ⟨rfl, rfl⟩
    go_wp2_with fail
    refine (refVar_is x _ h0 h1).mono ?_
    rintro e w5 ⟨v5, rfl, ⟨a5, c5, hv5, _⟩, hb5⟩
    rw [HM.out] at hv5
    subst hv5
    have B5 := Lib.hid (step_ B4.out hb5)
    clear hb5
    go_wp2_with fail
    refine (alive_is _).mono ?_
    rintro e w6 ⟨rfl, hb6⟩
    have B6 := Lib.hid (step_ B5.out hb6)
    clear hb6
    go_wp2_with fail
    go_ret
    exact ⟨rfl, B6.out⟩
end Go.Proofs.Ytejbplcmicnfaaa
