/- What must come at any rate; the walks of CrcSums and CrcOpens. -/
import Derived.Test.YtoelaamkkfjbfaaOpen
import Derived.Lib.SlBytesConst
namespace Go.Proofs.Ytoelaamkkfjbfaa
open Go.RowKit

theorem step_ {w a b : World} (h : Below w.heap.size w a) (k : Below a.heap.size a b) : Below w.heap.size w b := h.trans (k.mono h.size)
def nine : List Int := [49, 50, 51, 52, 53, 54, 55, 56, 57]
theorem nine_bytes : M.Bytes nine := by unfold M.Bytes nine; decide
theorem nine_sum : S (sumV nine) = 10673 := by decide +kernel
abbrev nineC : Array Value := #[.int .u8 49, .int .u8 50, .int .u8 51, .int .u8 52, .int .u8 53, .int .u8 54, .int .u8 55, .int .u8 56, .int .u8 57]
theorem nine_at (w : World) : BytesAt (w.alloc (.cells nineC 5 (9, 10))) (.slice (some ⟨w.heap.size, 0, none⟩) 9 9) nine :=
  ⟨_, _, rfl, ⟨by decide, fun h => by cases h⟩, nine_bytes, fun _ => ⟨w.heap.size, 0, rfl, by simp, fun i hi => by
    rw [Nat.zero_add, cell_of_row _ w.heap.size i nineC 5 (9, 10) (heap_alloc_new w _)]
    have : i = 0 ∨ i = 1 ∨ i = 2 ∨ i = 3 ∨ i = 4 ∨ i = 5 ∨ i = 6 ∨ i = 7 ∨ i = 8 := by simp [nine] at hi; omega
    rcases this with rfl | rfl | rfl | rfl | rfl | rfl | rfl | rfl | rfl <;> rfl⟩⟩
theorem alive_is (w : World) : Calls Try.prog 6 #[] w fun e w' => e = .returned (.bool true) ∧ Below w.heap.size w w' := by
  have B0 := Lib.hid ((Below.refl _ w).alloc (Nat.le_refl _) (.cells nineC 5 (9, 10)))
  have hcv := Lib.run_convert_bytes_const (P := Try.prog) w 22 5 nineC 9 9 Try.underlying22 Try.underlying5
  have NA := Lib.hid (nine_at w)
  go_enter Try.func6, Try.ntmps6
  go_wp2_with fail
  refine (sum_is _ nine 10673 _ NA.out (by decide) (Lib.hid nine_sum)).mono ?_
  rintro e w1 ⟨rfl, b1⟩
  have B1 := Lib.hid (B0.out.trans (b1.mono (by simp)))
  clear b1 B0 hcv NA
  go_wp2_with fail
  refine (seal_is _ [] _ (bytes_nil _) (by decide)).mono ?_
  rintro e w2 ⟨v, rfl, hown, b2⟩
  obtain ⟨g2, cap2, f, rfl, -, hc2, -, -⟩ := own_row (l := sealI []) (by simpa using hown) (by rw [seal_len]; omega)
  have B2 := Lib.hid (step_ B1.out b2)
  rw [seal_len]
  clear hown b2 B1
  go_wp2_with fail
  go_ret
  exact ⟨rfl, B2.out⟩
/-- An operation behind a guard that says yes. -/
theorem wanted_on {P : Program} {ops : Array Oper} {Q : Exit → Act → World → Prop} {a : Act} {w : World} {rest : List Oper} {o : Oper}
    (hw : Region.wanted o (yielded ops a.tmps) = true) (h : wpList P ops Q ({ o with guard := none } :: rest) a w) : wpList P ops Q (o :: rest) a w := by
  have hw2 : Region.wanted { o with guard := none } (yielded ops a.tmps) = true := by simp [Region.wanted]
  unfold wpList at h ⊢
  rw [if_pos hw2] at h
  rw [if_pos hw]
  exact h
set_option maxRecDepth 100000 in
theorem crcSums_any (u1 u2 : Value) (l1 l2 : List Int) (w : World) (h1 : BytesAt w u1 l1) (h2 : BytesAt w u2 l2) : Calls Try.prog 3 #[u1, u2] w fun e w' => e = .returned (.bool true) ∧ Below w.heap.size w w' := by
  have H1 := Lib.hid h1
  have H2 := Lib.hid h2
  obtain ⟨a1, c1, rfl, -, -, -⟩ := h1
  obtain ⟨a2, c2, rfl, -, -, -⟩ := h2
  by_cases hl1 : l1.length ≤ 300
  · by_cases hl2 : l2.length ≤ 300
    · have k1 : ¬ (l1.length : Int) > 300 := by omega
      have k2 : ¬ (l2.length : Int) > 300 := by omega
      obtain ⟨r1, hr1⟩ : ∃ r, S (sumV l1) = r := ⟨_, rfl⟩
      obtain ⟨r2, hr2⟩ : ∃ r, S (after (sumV l1) l2) = r := ⟨_, rfl⟩
      have HR1 := Lib.hid hr1
      have HR2 := Lib.hid hr2
      have HR3 := Lib.hid (show S (sumV ([] ++ l1 ++ l2)) = r2 by rw [← hr2, List.nil_append]; unfold sumV; rw [after_app])
      clear hr1 hr2
      go_enter Try.func3, Try.ntmps3
      go_wp2_with fail
      refine (sum_is _ l1 r1 _ H1.out (by omega) HR1).mono ?_
      rintro e w1 ⟨rfl, b1⟩
      have B1 := Lib.hid b1
      clear b1
      go_wp2_with fail
      refine (refSum_is _ l1 r1 _ (H1.out.below B1.out) (by omega) HR1).mono ?_
      rintro e w' ⟨rfl, rfl⟩
      go_wp2_with fail
      refine (sum_is _ l1 r1 _ (H1.out.below B1.out) (by omega) HR1).mono ?_
      rintro e w2 ⟨rfl, b2⟩
      have B2 := Lib.hid (step_ B1.out b2)
      clear b2 B1
      go_wp2_with fail
      refine (more_is _ l2 (sumV l1) r1 r2 _ (H2.out.below B2.out) (by omega) HR1 HR2).mono ?_
      rintro e w3 ⟨rfl, b3⟩
      have B3 := Lib.hid (step_ B2.out b3)
      clear b3 B2
      have HE := Lib.hid (owns_empty w3 w3.heap.size (Nat.le_refl _))
      have BE := Lib.hid ((Below.refl _ w3).alloc (Nat.le_refl _) (.cells #[] 5))
      have V1 := Lib.hid ((H1.out.below B3.out).below BE.out)
      go_wp2_with (first | (at_builtin; refine wanted_on rfl ?_; refine app_bytes _ rfl (.tmp 24) (.tmp 25) rfl w3.heap.size _ _ [] l1 rfl HE.out rfl V1.out (by simp; omega) BE.out.size ?_; intro v4 w4 hown4 b4; have HO4 := Lib.hid hown4; have B4 := Lib.hid (BE.out.trans b4); have V2 := Lib.hid ((H2.out.below B3.out).below B4.out); clear hown4 b4) | (at_builtin; refine wanted_on rfl ?_; refine app_bytes _ rfl (.tmp 26) (.tmp 27) rfl w3.heap.size _ _ ([] ++ l1) l2 rfl HO4.out rfl V2.out (by simp; omega) B4.out.size ?_; intro v5 w5 hown5 b5; have HO5 := Lib.hid (bytes_of_owns hown5 ((M.Bytes.app (fun _ h => by cases h) H1.out.bytes).app H2.out.bytes)); have B5 := Lib.hid (step_ B3.out (B4.out.trans b5)); clear hown5 b5) | fail)
      refine (refSum_is _ ([] ++ l1 ++ l2) r2 _ HO5.out (by simp; omega) HR3).mono ?_
      rintro e w' ⟨rfl, rfl⟩
      go_wp2_with fail
      refine (alive_is _).mono ?_
      rintro e w6 ⟨rfl, b6⟩
      have B6 := Lib.hid (step_ B5.out b6)
      clear b6
      go_wp2_with fail
      go_ret
      exact ⟨rfl, B6.out⟩
    · have k1 : ¬ (l1.length : Int) > 300 := by omega
      have k2 : (l2.length : Int) > 300 := by omega
      go_enter Try.func3, Try.ntmps3
      go_wp2_with fail
      refine (alive_is _).mono ?_
      rintro e w6 ⟨rfl, b6⟩
      have B6 := Lib.hid b6
      clear b6
      go_wp2_with fail
      go_ret
      exact ⟨rfl, B6.out⟩
  · have k1 : (l1.length : Int) > 300 := by omega
    go_enter Try.func3, Try.ntmps3
    go_wp2_with fail
    refine (alive_is _).mono ?_
    rintro e w6 ⟨rfl, b6⟩
    have B6 := Lib.hid b6
    clear b6
    go_wp2_with fail
    go_ret
    exact ⟨rfl, B6.out⟩
set_option maxRecDepth 100000 in
theorem crcOpens_any (u : Value) (l : List Int) (w : World) (h : BytesAt w u l) : Calls Try.prog 4 #[u] w fun e w' => e = .returned (.bool true) ∧ Below w.heap.size w w' := by
  have H := Lib.hid h
  obtain ⟨a, c, rfl, -, -, -⟩ := h
  by_cases hl : l.length ≤ 300
  · have k1 : ¬ (l.length : Int) > 300 := by omega
    have HSB := Lib.hid (seal_bytes H.out.bytes)
    have HSL := Lib.hid (seal_len l)
    have HOL := Lib.hid (show (openL l).length ≤ 1000 by
      unfold openL
      split
      · simp
      · split
        · simp; omega
        · simp)
    obtain ⟨E, hE⟩ : ∃ E, openE l = E := ⟨_, rfl⟩
    have HE := Lib.hid hE
    clear hE
    go_enter Try.func4, Try.ntmps4
    go_wp2_with fail
    refine (open_is _ l _ H.out (by omega)).mono ?_
    rintro e w1 ⟨v1, rfl, hv1, b1⟩
    rw [HE.out]
    have V1 := Lib.hid hv1
    have B1 := Lib.hid b1
    clear hv1 b1
    go_wp2_with fail
    refine (refOpen_is _ l _ (H.out.below B1.out) (by omega)).mono ?_
    rintro e w2 ⟨v2, rfl, hv2, b2⟩
    rw [HE.out]
    have V2 := Lib.hid hv2
    have V1b := Lib.hid (V1.out.below b2)
    have B2 := Lib.hid (step_ B1.out b2)
    clear hv2 b2 V1 B1
    go_wp2_with fail
    refine (seal_is _ l _ (H.out.below B2.out) (by omega)).mono ?_
    rintro e w3 ⟨v3, rfl, hv3, b3⟩
    have V3 := Lib.hid (bytes_of_owns hv3 HSB.out)
    have V1c := Lib.hid (V1b.out.below b3)
    have V2c := Lib.hid (V2.out.below b3)
    have B3 := Lib.hid (step_ B2.out b3)
    clear hv3 b3 V1b V2 B2
    go_wp2_with fail
    refine (refSeal_is _ l _ (H.out.below B3.out) (by omega)).mono ?_
    rintro e w4 ⟨v4, rfl, hv4, b4⟩
    have V4 := Lib.hid (bytes_of_owns hv4 HSB.out)
    have V1d := Lib.hid (V1c.out.below b4)
    have V2d := Lib.hid (V2c.out.below b4)
    have V3d := Lib.hid (V3.out.below b4)
    have B4 := Lib.hid (step_ B3.out b4)
    clear hv4 b4 V1c V2c V3 B3
    go_wp2_with fail
    refine (same_any _ _ (sealI l) _ (by have := HSL.out; omega) V3d.out V4.out).mono ?_
    rintro e w5 ⟨rfl, b5⟩
    have V1e := Lib.hid (V1d.out.below b5)
    have V2e := Lib.hid (V2d.out.below b5)
    have B5 := Lib.hid (step_ B4.out b5)
    clear b5 V1d V2d V3d V4 B4
    go_wp2_with fail
    refine (same_any _ _ (openL l) _ HOL.out V1e.out V2e.out).mono ?_
    rintro e w6 ⟨rfl, b6⟩
    have B6 := Lib.hid (step_ B5.out b6)
    clear b6 V1e V2e B5
    go_wp2_with fail
    refine (alive_is _).mono ?_
    rintro e w7 ⟨rfl, b7⟩
    have B7 := Lib.hid (step_ B6.out b7)
    clear b7 B6
    go_wp2_with fail
    go_ret
    exact ⟨rfl, B7.out⟩
  · have k1 : (l.length : Int) > 300 := by omega
    go_enter Try.func4, Try.ntmps4
    go_wp2_with fail
    refine (alive_is _).mono ?_
    rintro e w6 ⟨rfl, b6⟩
    have B6 := Lib.hid b6
    clear b6
    go_wp2_with fail
    go_ret
    exact ⟨rfl, B6.out⟩
end Go.Proofs.Ytoelaamkkfjbfaa
