/- The walks of NameNumbers and NameBack. -/
import Derived.Test.YtkdpohgckefipaaLaws
namespace Go.Proofs.Ytkdpohgckefipaa
open Go.RowKit

set_option maxRecDepth 100000 in
set_option maxHeartbeats 1000000 in
theorem nameNumbers_any (a b : List Int) (x : Int) (w : World) (ha : a.length = 8) (hba : M.Bytes a) (hb : b.length = 8) (hbb : M.Bytes b) (h0 : 0 ≤ x) (h1 : x < 18446744073709551616) :
    Calls Try.prog 4 #[.agg (nm a), .agg (nm b), .int .u64 x] w fun e w' => e = .returned (.bool true) ∧ Below w.heap.size w w' := by
  have X1 := Lib.hid h1
  obtain ⟨l, hl⟩ : ∃ l, M.digits 8 x = l := ⟨_, rfl⟩
  have HL := Lib.hid hl
  have LL := Lib.hid (show l.length = 8 by rw [← hl]; exact M.digits_len 8 x)
  obtain ⟨r, hr⟩ : ∃ r, M.rightB l = r := ⟨_, rfl⟩
  have HR := Lib.hid hr
  obtain ⟨m, hm⟩ : ∃ m, okL r l = m := ⟨_, rfl⟩
  obtain ⟨E, hE⟩ : ∃ E, okE r = E := ⟨_, rfl⟩
  have ML := Lib.hid (show m.length = 8 by rw [← hm]; exact okL_len LL.out)
  obtain ⟨y, hy⟩ : ∃ y, M.num a = y := ⟨_, rfl⟩
  have HY := Lib.hid hy
  obtain ⟨t, ht⟩ : ∃ t, M.lessB a b = t := ⟨_, rfl⟩
  have HT := Lib.hid ht
  have AL := Lib.hid ha
  have BL := Lib.hid hb
  have AB := Lib.hid hba
  have BB := Lib.hid hbb
  have hq1 : ∀ w d, (Op.equalIn (d + 2) 23 (.agg (nm m)) (.agg (nm m))).run Try.prog w = .ok true w := fun w d => by rw [eql23 m m ML.out ML.out d w]; simp
  have hz := zero23
  have HA := Lib.hid ((at_alloc w a).below ((Below.refl _ _).alloc (Nat.le_refl _) (.cells (nm b) 23)))
  have HC := Lib.hid (two_last w (.cells (nm a) 23) b)
  have HB := Lib.hid (two_below w (.cells (nm a) 23) (.cells (nm b) 23))
  have HM := Lib.hid hm
  have HE := Lib.hid hE
  clear hl hr hm hE hy ht ha hb hba hbb h1
  go_enter Try.func4, Try.ntmps4
  go_wp2_with fail
  refine (from_is x l r _ HL HR).mono ?_
  rintro e w1 ⟨rfl, c1⟩
  rw [HM.out, HE.out]
  have al1 := (Below.refl w1.heap.size w1).alloc (Nat.le_refl _) (.cells (nm M.zero8) 23)
  have A1 := Lib.hid ((HA.out.below c1).below al1)
  have C1 := Lib.hid ((HC.out.below c1).below al1)
  have G1 := Lib.hid (HA.out.below c1).lt
  have G2 := Lib.hid (HC.out.below c1).lt
  have B1 := Lib.hid (step_ (HB.out.trans (c1.mono (by simp; omega))) al1)
  have N1 := Lib.hid (at_alloc w1 M.zero8)
  clear c1 HA HB HC al1
  go_wp2_with (first
    | (refine wpList_store_name rfl _ _ rfl w1.heap.size M.zero8 m rfl rfl N1.out rfl ML.out ?_; intro w2 N2 F2 L2))
  refine (refFrom_is x l r _ h0 X1 HL HR).mono ?_
  rintro e w3 ⟨rfl, c3⟩
  rw [HM.out, HE.out]
  have B2 := L2.out w.heap.size w (Nat.le_of_lt G1.out) B1.out
  have al := (Below.refl w3.heap.size w3).alloc (Nat.le_refl _) (.cells (nm M.zero8) 23)
  have A2 := (F2.out w.heap.size a (Nat.ne_of_lt G1.out) A1.out).below c3
  have C2 := (F2.out (w.heap.size + 1) b (Nat.ne_of_lt G2.out) C1.out).below c3
  have A3 := Lib.hid (A2.below al)
  have C3 := Lib.hid (C2.below al)
  have N3 := Lib.hid ((N2.out.below c3).below al)
  have G3 := Lib.hid (N2.out.below c3).lt
  have G4 := Lib.hid A2.lt
  have G5 := Lib.hid C2.lt
  have B3 := Lib.hid (step_ (step_ B2 c3) al)
  have M3 := Lib.hid (at_alloc w3 M.zero8)
  clear c3 B2 F2 L2 N1 B1 A1 N2 al A2 C2 C1
  go_wp2_with (first
    | (refine wpList_store_name rfl _ _ rfl w3.heap.size M.zero8 m rfl rfl M3.out rfl ML.out ?_; intro w4 M4 F4 L4))
  have A4 := Lib.hid (F4.out w.heap.size a (Nat.ne_of_lt G4.out) A3.out)
  have C4 := Lib.hid (F4.out (w.heap.size + 1) b (Nat.ne_of_lt G5.out) C3.out)
  have N4 := Lib.hid (F4.out w1.heap.size m (Nat.ne_of_lt G3.out) N3.out)
  have B4 := Lib.hid (L4.out w.heap.size w (Nat.le_of_lt G4.out) B3.out)
  clear F4 L4 B3 A3 N3 M3 G3 G4 G1 G2 G5 C3
  refine region_later (by kernel_rfl) (by kernel_rfl) ?_
  (go_big_quiet_want; refine quiet_load w.heap.size a _ rfl rfl A4.out AL.out ?_; go_simp; go_big_quiet_on)
  go_big_quiet_step (exact later_call (number_is a y _ AL.out AB HY))
  (go_big_quiet_want; refine quiet_load w.heap.size a _ rfl rfl A4.out AL.out ?_; go_simp; go_big_quiet_on)
  go_big_quiet_step (exact later_call (refNumber_is a y _ AL.out AB HY))
  go_big_quiet_step (fail)
  go_big_quiet_step (fail)
  (go_big_quiet_want; refine quiet_load w1.heap.size m _ rfl rfl N4.out ML.out ?_; go_simp; go_big_quiet_on)
  (go_big_quiet_want; refine quiet_load w3.heap.size m _ rfl rfl M4.out ML.out ?_; go_simp; go_big_quiet_on)
  go_big_quiet_step (fail)
  go_big_quiet_step (fail)
  go_big_quiet_step (fail)
  go_big_quiet_step (fail)
  go_big_quiet_step (fail)
  go_big_quiet_step (fail)
  go_big_quiet_step (fail)
  go_big_quiet_step (fail)
  (go_big_quiet_want; refine quiet_load w.heap.size a _ rfl rfl A4.out AL.out ?_; go_simp; go_big_quiet_on)
  (go_big_quiet_want; refine quiet_load (w.heap.size + 1) b _ rfl rfl C4.out BL.out ?_; go_simp; go_big_quiet_on)
  go_big_quiet_step (exact later_call (less_is a b t _ AL.out BL.out AB BB HT))
  (go_big_quiet_want; refine quiet_load w.heap.size a _ rfl rfl A4.out AL.out ?_; go_simp; go_big_quiet_on)
  (go_big_quiet_want; refine quiet_load (w.heap.size + 1) b _ rfl rfl C4.out BL.out ?_; go_simp; go_big_quiet_on)
  go_big_quiet_step (exact later_call (refLess_is a b t _ AL.out BL.out AB BB HT))
  go_big_quiet_step (fail)
  go_big_quiet_step (fail)
  go_big_quiet_step (fail)
  go_big_quiet_step (exact later_call (alive_is _))
  repeat go_big_quiet_step (fail)
  refine wpQuiet_nil ?_
  intro w5 hw5
  have B5 := Lib.hid (step_ B4.out hw5)
  clear hw5
  go_wp2_with fail
  go_ret
  exact ⟨rfl, B5.out⟩
end Go.Proofs.Ytkdpohgckefipaa
