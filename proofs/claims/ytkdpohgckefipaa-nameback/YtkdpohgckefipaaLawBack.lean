/- The walk of NameBack. -/
import Derived.Test.YtkdpohgckefipaaLawsB
namespace Go.Proofs.Ytkdpohgckefipaa
open Go.RowKit

set_option maxRecDepth 100000 in
set_option maxHeartbeats 1000000 in
theorem nameBack_lt (a b : List Int) (w : World) (ha : a.length = 8) (hba : M.Bytes a) (hb : b.length = 8) (hbb : M.Bytes b) (h1 : M.lessB a b = true) (h2 : M.lessB b a = false) (he : (a == b) = false) :
    Calls Try.prog 5 #[.agg (nm a), .agg (nm b)] w fun e w' => e = .returned (.bool true) ∧ Below w.heap.size w w' := by
  obtain ⟨x, hx⟩ : ∃ x, M.num a = x := ⟨_, rfl⟩
  obtain ⟨y, hy⟩ : ∃ y, M.num b = y := ⟨_, rfl⟩
  have HX := Lib.hid hx
  have HY := Lib.hid hy
  have hxy : x < y := by
    unfold M.lessB at h1
    rw [hx, hy] at h1
    simpa using h1
  have H1 := Lib.hid h1
  have H2 := Lib.hid h2
  have AL := Lib.hid ha
  have BL := Lib.hid hb
  have AB := Lib.hid hba
  have BB := Lib.hid hbb
  obtain ⟨r, hr⟩ : ∃ r, M.rightB a = r := ⟨_, rfl⟩
  have HR := Lib.hid hr
  have hq : ∀ w d, (Op.equalIn (d + 2) 23 (.agg (nm a)) (.agg (nm b))).run Try.prog w = .ok false w := fun w d => by rw [eql23 a b ha hb d w, he]
  have hz := zero23
  have HA := Lib.hid ((at_alloc w a).below ((Below.refl _ _).alloc (Nat.le_refl _) (.cells (nm b) 23)))
  have HC := Lib.hid (two_last w (.cells (nm a) 23) b)
  have HB := Lib.hid (two_below w (.cells (nm a) 23) (.cells (nm b) 23))
  clear hx hy h1 h2 ha hb hba hbb hr he
  go_enter Try.func5, Try.ntmps5
  go_wp2_with fail
  generalize (w.alloc (.cells (nm a) 23)).alloc (.cells (nm b) 23) = W at HA HB HC
  refine region_later (by kernel_rfl) (by kernel_rfl) ?_
  (go_big_quiet_want; refine quiet_load w.heap.size a _ rfl rfl HA.out AL.out ?_; go_simp; go_big_quiet_on)
  (go_big_quiet_want; refine quiet_load (w.heap.size + 1) b _ rfl rfl HC.out BL.out ?_; go_simp; go_big_quiet_on)
  go_big_quiet_step (exact later_call (less_is a b true _ AL.out BL.out AB BB H1))
  (go_big_quiet_want; refine quiet_load w.heap.size a _ rfl rfl HA.out AL.out ?_; go_simp; go_big_quiet_on)
  go_big_quiet_step (exact later_call (number_is a x _ AL.out AB HX))
  (go_big_quiet_want; refine quiet_load (w.heap.size + 1) b _ rfl rfl HC.out BL.out ?_; go_simp; go_big_quiet_on)
  go_big_quiet_step (exact later_call (number_is b y _ BL.out BB HY))
  go_big_quiet_step (fail)
  go_big_quiet_step (fail)
  go_big_quiet_step (fail)
  (go_big_quiet_want; refine quiet_load w.heap.size a _ rfl rfl HA.out AL.out ?_; go_simp; go_big_quiet_on)
  (go_big_quiet_want; refine quiet_load (w.heap.size + 1) b _ rfl rfl HC.out BL.out ?_; go_simp; go_big_quiet_on)
  go_big_quiet_step (exact later_call (less_is a b true _ AL.out BL.out AB BB H1))
  go_big_quiet_step (fail)
  (go_big_quiet_want; refine quiet_load (w.heap.size + 1) b _ rfl rfl HC.out BL.out ?_; go_simp; go_big_quiet_on)
  (go_big_quiet_want; refine quiet_load w.heap.size a _ rfl rfl HA.out AL.out ?_; go_simp; go_big_quiet_on)
  go_big_quiet_step (exact later_call (less_is b a false _ BL.out AL.out BB AB H2))
  go_big_quiet_step (fail)
  go_big_quiet_step (fail)
  go_big_quiet_step (fail)
  (go_big_quiet_want; refine quiet_load w.heap.size a _ rfl rfl HA.out AL.out ?_; go_simp; go_big_quiet_on)
  (go_big_quiet_want; refine quiet_load (w.heap.size + 1) b _ rfl rfl HC.out BL.out ?_; go_simp; go_big_quiet_on)
  go_big_quiet_step (exact later_call (less_is a b true _ AL.out BL.out AB BB H1))
  go_big_quiet_step (fail)
  go_big_quiet_step (fail)
  go_big_quiet_step (fail)
  go_big_quiet_step (fail)
  go_big_quiet_step (fail)
  go_big_quiet_step (fail)
  go_big_quiet_step (fail)
  (go_big_quiet_want; refine quiet_load w.heap.size a _ rfl rfl HA.out AL.out ?_; go_simp; go_big_quiet_on)
  (go_big_quiet_want; refine quiet_load (w.heap.size + 1) b _ rfl rfl HC.out BL.out ?_; go_simp; go_big_quiet_on)
  repeat go_big_quiet_step (fail)
  refine wpQuiet_nil ?_
  intro w1 hw1
  have A1 := Lib.hid (HA.out.below hw1)
  have B1 := Lib.hid (HB.out.trans (hw1.mono HB.out.size))
  clear hw1 hxy hq HA HB HC H1 H2 HY BL BB
  go_wp2_with (refine wpList_load_name rfl _ rfl w.heap.size a rfl A1.out AL.out ?_)
  refine (right_is a r _ AL.out AB HR).mono ?_
  rintro e w2 ⟨rfl, c2⟩
  have A2 := Lib.hid (A1.out.below c2)
  have B2 := Lib.hid (step_ B1.out c2)
  clear c2 A1 B1
  cases r with
  | false =>
    go_wp2_with fail
    refine (alive_is _).mono ?_
    rintro e w3 ⟨rfl, c3⟩
    have B3 := Lib.hid (step_ B2.out c3)
    clear c3
    go_wp2_with fail
    go_ret
    exact ⟨rfl, B3.out⟩
  | true =>
    obtain ⟨s, hs⟩ : ∃ s, s = strOfNums (M.text a) := ⟨_, rfl⟩
    have HS := Lib.hid hs
    have TB := Lib.hid (M.text_bytes AB.out)
    have HT := Lib.hid (M.right_text AL.out HR.out)
    have HD := Lib.hid (show M.digits 8 x = a by rw [← HX.out]; exact M.digits_num a 8 AL.out AB.out)
    have HN := Lib.hid (M.right_some HR.out)
    have hq1 : ∀ w d, (Op.equalIn (d + 2) 23 (.agg (nm a)) (.agg (nm a))).run Try.prog w = .ok true w := fun w d => by rw [eql23 a a AL.out AL.out d w]; simp
    clear hs
    go_wp2_with (refine wpList_load_name rfl _ rfl w.heap.size a rfl A2.out AL.out ?_)
    refine (text_is a s _ AL.out AB HS).mono ?_
    rintro e w3 ⟨rfl, c3⟩
    have A3 := Lib.hid (A2.out.below c3)
    have B3 := Lib.hid (step_ B2.out c3)
    clear c3 A2 B2
    go_wp2_with fail
    refine (of_is s (M.text a) true _ HS TB (Lib.hid HT.out.1)).mono ?_
    rintro e w4 ⟨rfl, c4⟩
    rw [show okL true (M.pad (M.text a)) = a from HT.out.2, show okE true = 0 from rfl]
    have al4 := (Below.refl w4.heap.size w4).alloc (Nat.le_refl _) (.cells (nm M.zero8) 23)
    have A4 := Lib.hid ((A3.out.below c4).below al4)
    have G4 := Lib.hid (A3.out.below c4).lt
    have B4 := Lib.hid (step_ (step_ B3.out c4) al4)
    have N4 := Lib.hid (at_alloc w4 M.zero8)
    clear c4 A3 B3 al4
    go_wp2_with (first
      | (refine wpList_store_name rfl _ _ rfl w4.heap.size M.zero8 a rfl rfl N4.out rfl AL.out ?_; intro w5 N5 F5 L5; have A5 := Lib.hid (F5.out w.heap.size a (Nat.ne_of_lt G4.out) A4.out); have B5 := Lib.hid (L5.out w.heap.size w (Nat.le_of_lt G4.out) B4.out); clear F5 L5)
      | refine wpList_load_name rfl _ rfl w.heap.size a rfl A5.out AL.out ?_)
    refine (number_is a x _ AL.out AB HX).mono ?_
    rintro e w6 ⟨rfl, c6⟩
    have A6 := Lib.hid (A5.out.below c6)
    have N6 := Lib.hid (N5.out.below c6)
    have B6 := Lib.hid (step_ B5.out c6)
    clear c6 A5 N5 B5 N4 A4 B4
    go_wp2_with fail
    refine (from_is x a true _ HD HR).mono ?_
    rintro e w7 ⟨rfl, c7⟩
    rw [show okL true a = a from rfl, show okE true = 0 from rfl]
    have al7 := (Below.refl w7.heap.size w7).alloc (Nat.le_refl _) (.cells (nm M.zero8) 23)
    have A7 := Lib.hid ((A6.out.below c7).below al7)
    have N7 := Lib.hid ((N6.out.below c7).below al7)
    have G7 := Lib.hid (A6.out.below c7).lt
    have G8 := Lib.hid (N6.out.below c7).lt
    have B7 := Lib.hid (step_ (step_ B6.out c7) al7)
    have M7 := Lib.hid (at_alloc w7 M.zero8)
    clear c7 al7 A6 N6 B6
    go_wp2_with (first
      | (refine wpList_store_name rfl _ _ rfl w7.heap.size M.zero8 a rfl rfl M7.out rfl AL.out ?_; intro w8 M8 F8 L8; have A8 := Lib.hid (F8.out w.heap.size a (Nat.ne_of_lt G7.out) A7.out); have N8 := Lib.hid (F8.out w4.heap.size a (Nat.ne_of_lt G8.out) N7.out); have B8 := Lib.hid (L8.out w.heap.size w (Nat.le_of_lt G7.out) B7.out); clear F8 L8)
      | (refine wanted_on rfl ?_; refine wpList_load_name rfl _ rfl w.heap.size a rfl A8.out AL.out ?_)
      | (refine wanted_on rfl ?_; refine wpList_load_name rfl _ rfl w4.heap.size a rfl N8.out AL.out ?_)
      | (refine wanted_on rfl ?_; refine wpList_load_name rfl _ rfl w7.heap.size a rfl M8.out AL.out ?_))
    refine (some_is a true _ AL.out HN).mono ?_
    rintro e w9 ⟨rfl, c9⟩
    have B9 := Lib.hid (step_ B8.out c9)
    clear c9
    go_wp2_with fail
    refine (alive_is _).mono ?_
    rintro e wA ⟨rfl, cA⟩
    have BA := Lib.hid (step_ B9.out cA)
    clear cA
    go_wp2_with fail
    go_ret
    exact ⟨rfl, BA.out⟩
set_option maxRecDepth 100000 in
set_option maxHeartbeats 1000000 in
theorem nameBack_gt (a b : List Int) (w : World) (ha : a.length = 8) (hba : M.Bytes a) (hb : b.length = 8) (hbb : M.Bytes b) (h1 : M.lessB a b = false) (h2 : M.lessB b a = true) (he : (a == b) = false) :
    Calls Try.prog 5 #[.agg (nm a), .agg (nm b)] w fun e w' => e = .returned (.bool true) ∧ Below w.heap.size w w' := by
  obtain ⟨x, hx⟩ : ∃ x, M.num a = x := ⟨_, rfl⟩
  obtain ⟨y, hy⟩ : ∃ y, M.num b = y := ⟨_, rfl⟩
  have HX := Lib.hid hx
  have HY := Lib.hid hy
  have hxy : decide (x < y) = false := by
    unfold M.lessB at h1
    rw [hx, hy] at h1
    exact h1
  have H1 := Lib.hid h1
  have H2 := Lib.hid h2
  have AL := Lib.hid ha
  have BL := Lib.hid hb
  have AB := Lib.hid hba
  have BB := Lib.hid hbb
  obtain ⟨r, hr⟩ : ∃ r, M.rightB a = r := ⟨_, rfl⟩
  have HR := Lib.hid hr
  have hq : ∀ w d, (Op.equalIn (d + 2) 23 (.agg (nm a)) (.agg (nm b))).run Try.prog w = .ok false w := fun w d => by rw [eql23 a b ha hb d w, he]
  have hz := zero23
  have HA := Lib.hid ((at_alloc w a).below ((Below.refl _ _).alloc (Nat.le_refl _) (.cells (nm b) 23)))
  have HC := Lib.hid (two_last w (.cells (nm a) 23) b)
  have HB := Lib.hid (two_below w (.cells (nm a) 23) (.cells (nm b) 23))
  clear hx hy h1 h2 ha hb hba hbb hr he
  go_enter Try.func5, Try.ntmps5
  go_wp2_with fail
  generalize (w.alloc (.cells (nm a) 23)).alloc (.cells (nm b) 23) = W at HA HB HC
  refine region_later (by kernel_rfl) (by kernel_rfl) ?_
  (go_big_quiet_want; refine quiet_load w.heap.size a _ rfl rfl HA.out AL.out ?_; go_simp; go_big_quiet_on)
  (go_big_quiet_want; refine quiet_load (w.heap.size + 1) b _ rfl rfl HC.out BL.out ?_; go_simp; go_big_quiet_on)
  go_big_quiet_step (exact later_call (less_is a b false _ AL.out BL.out AB BB H1))
  (go_big_quiet_want; refine quiet_load w.heap.size a _ rfl rfl HA.out AL.out ?_; go_simp; go_big_quiet_on)
  go_big_quiet_step (exact later_call (number_is a x _ AL.out AB HX))
  (go_big_quiet_want; refine quiet_load (w.heap.size + 1) b _ rfl rfl HC.out BL.out ?_; go_simp; go_big_quiet_on)
  go_big_quiet_step (exact later_call (number_is b y _ BL.out BB HY))
  go_big_quiet_step (fail)
  go_big_quiet_step (fail)
  go_big_quiet_step (fail)
  (go_big_quiet_want; refine quiet_load w.heap.size a _ rfl rfl HA.out AL.out ?_; go_simp; go_big_quiet_on)
  (go_big_quiet_want; refine quiet_load (w.heap.size + 1) b _ rfl rfl HC.out BL.out ?_; go_simp; go_big_quiet_on)
  go_big_quiet_step (exact later_call (less_is a b false _ AL.out BL.out AB BB H1))
  go_big_quiet_step (fail)
  go_big_quiet_step (fail)
  go_big_quiet_step (fail)
  go_big_quiet_step (fail)
  go_big_quiet_step (fail)
  go_big_quiet_step (fail)
  go_big_quiet_step (fail)
  (go_big_quiet_want; refine quiet_load w.heap.size a _ rfl rfl HA.out AL.out ?_; go_simp; go_big_quiet_on)
  (go_big_quiet_want; refine quiet_load (w.heap.size + 1) b _ rfl rfl HC.out BL.out ?_; go_simp; go_big_quiet_on)
  go_big_quiet_step (exact later_call (less_is a b false _ AL.out BL.out AB BB H1))
  go_big_quiet_step (fail)
  go_big_quiet_step (fail)
  (go_big_quiet_want; refine quiet_load (w.heap.size + 1) b _ rfl rfl HC.out BL.out ?_; go_simp; go_big_quiet_on)
  (go_big_quiet_want; refine quiet_load w.heap.size a _ rfl rfl HA.out AL.out ?_; go_simp; go_big_quiet_on)
  go_big_quiet_step (exact later_call (less_is b a true _ BL.out AL.out BB AB H2))
  go_big_quiet_step (fail)
  go_big_quiet_step (fail)
  (go_big_quiet_want; refine quiet_load w.heap.size a _ rfl rfl HA.out AL.out ?_; go_simp; go_big_quiet_on)
  (go_big_quiet_want; refine quiet_load (w.heap.size + 1) b _ rfl rfl HC.out BL.out ?_; go_simp; go_big_quiet_on)
  repeat go_big_quiet_step (fail)
  refine wpQuiet_nil ?_
  intro w1 hw1
  have A1 := Lib.hid (HA.out.below hw1)
  have B1 := Lib.hid (HB.out.trans (hw1.mono HB.out.size))
  clear hw1 hxy hq HA HB HC H1 H2 HY BL BB
  go_wp2_with (refine wpList_load_name rfl _ rfl w.heap.size a rfl A1.out AL.out ?_)
  refine (right_is a r _ AL.out AB HR).mono ?_
  rintro e w2 ⟨rfl, c2⟩
  have A2 := Lib.hid (A1.out.below c2)
  have B2 := Lib.hid (step_ B1.out c2)
  clear c2 A1 B1
  cases r with
  | false =>
    go_wp2_with fail
    refine (alive_is _).mono ?_
    rintro e w3 ⟨rfl, c3⟩
    have B3 := Lib.hid (step_ B2.out c3)
    clear c3
    go_wp2_with fail
    go_ret
    exact ⟨rfl, B3.out⟩
  | true =>
    obtain ⟨s, hs⟩ : ∃ s, s = strOfNums (M.text a) := ⟨_, rfl⟩
    have HS := Lib.hid hs
    have TB := Lib.hid (M.text_bytes AB.out)
    have HT := Lib.hid (M.right_text AL.out HR.out)
    have HD := Lib.hid (show M.digits 8 x = a by rw [← HX.out]; exact M.digits_num a 8 AL.out AB.out)
    have HN := Lib.hid (M.right_some HR.out)
    have hq1 : ∀ w d, (Op.equalIn (d + 2) 23 (.agg (nm a)) (.agg (nm a))).run Try.prog w = .ok true w := fun w d => by rw [eql23 a a AL.out AL.out d w]; simp
    clear hs
    go_wp2_with (refine wpList_load_name rfl _ rfl w.heap.size a rfl A2.out AL.out ?_)
    refine (text_is a s _ AL.out AB HS).mono ?_
    rintro e w3 ⟨rfl, c3⟩
    have A3 := Lib.hid (A2.out.below c3)
    have B3 := Lib.hid (step_ B2.out c3)
    clear c3 A2 B2
    go_wp2_with fail
    refine (of_is s (M.text a) true _ HS TB (Lib.hid HT.out.1)).mono ?_
    rintro e w4 ⟨rfl, c4⟩
    rw [show okL true (M.pad (M.text a)) = a from HT.out.2, show okE true = 0 from rfl]
    have al4 := (Below.refl w4.heap.size w4).alloc (Nat.le_refl _) (.cells (nm M.zero8) 23)
    have A4 := Lib.hid ((A3.out.below c4).below al4)
    have G4 := Lib.hid (A3.out.below c4).lt
    have B4 := Lib.hid (step_ (step_ B3.out c4) al4)
    have N4 := Lib.hid (at_alloc w4 M.zero8)
    clear c4 A3 B3 al4
    go_wp2_with (first
      | (refine wpList_store_name rfl _ _ rfl w4.heap.size M.zero8 a rfl rfl N4.out rfl AL.out ?_; intro w5 N5 F5 L5; have A5 := Lib.hid (F5.out w.heap.size a (Nat.ne_of_lt G4.out) A4.out); have B5 := Lib.hid (L5.out w.heap.size w (Nat.le_of_lt G4.out) B4.out); clear F5 L5)
      | refine wpList_load_name rfl _ rfl w.heap.size a rfl A5.out AL.out ?_)
    refine (number_is a x _ AL.out AB HX).mono ?_
    rintro e w6 ⟨rfl, c6⟩
    have A6 := Lib.hid (A5.out.below c6)
    have N6 := Lib.hid (N5.out.below c6)
    have B6 := Lib.hid (step_ B5.out c6)
    clear c6 A5 N5 B5 N4 A4 B4
    go_wp2_with fail
    refine (from_is x a true _ HD HR).mono ?_
    rintro e w7 ⟨rfl, c7⟩
    rw [show okL true a = a from rfl, show okE true = 0 from rfl]
    have al7 := (Below.refl w7.heap.size w7).alloc (Nat.le_refl _) (.cells (nm M.zero8) 23)
    have A7 := Lib.hid ((A6.out.below c7).below al7)
    have N7 := Lib.hid ((N6.out.below c7).below al7)
    have G7 := Lib.hid (A6.out.below c7).lt
    have G8 := Lib.hid (N6.out.below c7).lt
    have B7 := Lib.hid (step_ (step_ B6.out c7) al7)
    have M7 := Lib.hid (at_alloc w7 M.zero8)
    clear c7 al7 A6 N6 B6
    go_wp2_with (first
      | (refine wpList_store_name rfl _ _ rfl w7.heap.size M.zero8 a rfl rfl M7.out rfl AL.out ?_; intro w8 M8 F8 L8; have A8 := Lib.hid (F8.out w.heap.size a (Nat.ne_of_lt G7.out) A7.out); have N8 := Lib.hid (F8.out w4.heap.size a (Nat.ne_of_lt G8.out) N7.out); have B8 := Lib.hid (L8.out w.heap.size w (Nat.le_of_lt G7.out) B7.out); clear F8 L8)
      | (refine wanted_on rfl ?_; refine wpList_load_name rfl _ rfl w.heap.size a rfl A8.out AL.out ?_)
      | (refine wanted_on rfl ?_; refine wpList_load_name rfl _ rfl w4.heap.size a rfl N8.out AL.out ?_)
      | (refine wanted_on rfl ?_; refine wpList_load_name rfl _ rfl w7.heap.size a rfl M8.out AL.out ?_))
    refine (some_is a true _ AL.out HN).mono ?_
    rintro e w9 ⟨rfl, c9⟩
    have B9 := Lib.hid (step_ B8.out c9)
    clear c9
    go_wp2_with fail
    refine (alive_is _).mono ?_
    rintro e wA ⟨rfl, cA⟩
    have BA := Lib.hid (step_ B9.out cA)
    clear cA
    go_wp2_with fail
    go_ret
    exact ⟨rfl, BA.out⟩
set_option maxRecDepth 100000 in
set_option maxHeartbeats 1000000 in
theorem nameBack_eq (a b : List Int) (w : World) (ha : a.length = 8) (hba : M.Bytes a) (hb : b.length = 8) (hbb : M.Bytes b) (h1 : M.lessB a b = false) (h2 : M.lessB b a = false) (he : (a == b) = true) :
    Calls Try.prog 5 #[.agg (nm a), .agg (nm b)] w fun e w' => e = .returned (.bool true) ∧ Below w.heap.size w w' := by
  obtain ⟨x, hx⟩ : ∃ x, M.num a = x := ⟨_, rfl⟩
  obtain ⟨y, hy⟩ : ∃ y, M.num b = y := ⟨_, rfl⟩
  have HX := Lib.hid hx
  have HY := Lib.hid hy
  have hxy : decide (x < y) = false := by
    unfold M.lessB at h1
    rw [hx, hy] at h1
    exact h1
  have H1 := Lib.hid h1
  have H2 := Lib.hid h2
  have AL := Lib.hid ha
  have BL := Lib.hid hb
  have AB := Lib.hid hba
  have BB := Lib.hid hbb
  obtain ⟨r, hr⟩ : ∃ r, M.rightB a = r := ⟨_, rfl⟩
  have HR := Lib.hid hr
  have hq : ∀ w d, (Op.equalIn (d + 2) 23 (.agg (nm a)) (.agg (nm b))).run Try.prog w = .ok true w := fun w d => by rw [eql23 a b ha hb d w, he]
  have hz := zero23
  have HA := Lib.hid ((at_alloc w a).below ((Below.refl _ _).alloc (Nat.le_refl _) (.cells (nm b) 23)))
  have HC := Lib.hid (two_last w (.cells (nm a) 23) b)
  have HB := Lib.hid (two_below w (.cells (nm a) 23) (.cells (nm b) 23))
  clear hx hy h1 h2 ha hb hba hbb hr he
  go_enter Try.func5, Try.ntmps5
  go_wp2_with fail
  generalize (w.alloc (.cells (nm a) 23)).alloc (.cells (nm b) 23) = W at HA HB HC
  refine region_later (by kernel_rfl) (by kernel_rfl) ?_
  (go_big_quiet_want; refine quiet_load w.heap.size a _ rfl rfl HA.out AL.out ?_; go_simp; go_big_quiet_on)
  (go_big_quiet_want; refine quiet_load (w.heap.size + 1) b _ rfl rfl HC.out BL.out ?_; go_simp; go_big_quiet_on)
  go_big_quiet_step (exact later_call (less_is a b false _ AL.out BL.out AB BB H1))
  (go_big_quiet_want; refine quiet_load w.heap.size a _ rfl rfl HA.out AL.out ?_; go_simp; go_big_quiet_on)
  go_big_quiet_step (exact later_call (number_is a x _ AL.out AB HX))
  (go_big_quiet_want; refine quiet_load (w.heap.size + 1) b _ rfl rfl HC.out BL.out ?_; go_simp; go_big_quiet_on)
  go_big_quiet_step (exact later_call (number_is b y _ BL.out BB HY))
  go_big_quiet_step (fail)
  go_big_quiet_step (fail)
  go_big_quiet_step (fail)
  (go_big_quiet_want; refine quiet_load w.heap.size a _ rfl rfl HA.out AL.out ?_; go_simp; go_big_quiet_on)
  (go_big_quiet_want; refine quiet_load (w.heap.size + 1) b _ rfl rfl HC.out BL.out ?_; go_simp; go_big_quiet_on)
  go_big_quiet_step (exact later_call (less_is a b false _ AL.out BL.out AB BB H1))
  go_big_quiet_step (fail)
  go_big_quiet_step (fail)
  go_big_quiet_step (fail)
  go_big_quiet_step (fail)
  go_big_quiet_step (fail)
  go_big_quiet_step (fail)
  go_big_quiet_step (fail)
  (go_big_quiet_want; refine quiet_load w.heap.size a _ rfl rfl HA.out AL.out ?_; go_simp; go_big_quiet_on)
  (go_big_quiet_want; refine quiet_load (w.heap.size + 1) b _ rfl rfl HC.out BL.out ?_; go_simp; go_big_quiet_on)
  go_big_quiet_step (exact later_call (less_is a b false _ AL.out BL.out AB BB H1))
  go_big_quiet_step (fail)
  go_big_quiet_step (fail)
  (go_big_quiet_want; refine quiet_load (w.heap.size + 1) b _ rfl rfl HC.out BL.out ?_; go_simp; go_big_quiet_on)
  (go_big_quiet_want; refine quiet_load w.heap.size a _ rfl rfl HA.out AL.out ?_; go_simp; go_big_quiet_on)
  go_big_quiet_step (exact later_call (less_is b a false _ BL.out AL.out BB AB H2))
  go_big_quiet_step (fail)
  go_big_quiet_step (fail)
  (go_big_quiet_want; refine quiet_load w.heap.size a _ rfl rfl HA.out AL.out ?_; go_simp; go_big_quiet_on)
  (go_big_quiet_want; refine quiet_load (w.heap.size + 1) b _ rfl rfl HC.out BL.out ?_; go_simp; go_big_quiet_on)
  repeat go_big_quiet_step (fail)
  refine wpQuiet_nil ?_
  intro w1 hw1
  have A1 := Lib.hid (HA.out.below hw1)
  have B1 := Lib.hid (HB.out.trans (hw1.mono HB.out.size))
  clear hw1 hxy hq HA HB HC H1 H2 HY BL BB
  go_wp2_with (refine wpList_load_name rfl _ rfl w.heap.size a rfl A1.out AL.out ?_)
  refine (right_is a r _ AL.out AB HR).mono ?_
  rintro e w2 ⟨rfl, c2⟩
  have A2 := Lib.hid (A1.out.below c2)
  have B2 := Lib.hid (step_ B1.out c2)
  clear c2 A1 B1
  cases r with
  | false =>
    go_wp2_with fail
    refine (alive_is _).mono ?_
    rintro e w3 ⟨rfl, c3⟩
    have B3 := Lib.hid (step_ B2.out c3)
    clear c3
    go_wp2_with fail
    go_ret
    exact ⟨rfl, B3.out⟩
  | true =>
    obtain ⟨s, hs⟩ : ∃ s, s = strOfNums (M.text a) := ⟨_, rfl⟩
    have HS := Lib.hid hs
    have TB := Lib.hid (M.text_bytes AB.out)
    have HT := Lib.hid (M.right_text AL.out HR.out)
    have HD := Lib.hid (show M.digits 8 x = a by rw [← HX.out]; exact M.digits_num a 8 AL.out AB.out)
    have HN := Lib.hid (M.right_some HR.out)
    have hq1 : ∀ w d, (Op.equalIn (d + 2) 23 (.agg (nm a)) (.agg (nm a))).run Try.prog w = .ok true w := fun w d => by rw [eql23 a a AL.out AL.out d w]; simp
    clear hs
    go_wp2_with (refine wpList_load_name rfl _ rfl w.heap.size a rfl A2.out AL.out ?_)
    refine (text_is a s _ AL.out AB HS).mono ?_
    rintro e w3 ⟨rfl, c3⟩
    have A3 := Lib.hid (A2.out.below c3)
    have B3 := Lib.hid (step_ B2.out c3)
    clear c3 A2 B2
    go_wp2_with fail
    refine (of_is s (M.text a) true _ HS TB (Lib.hid HT.out.1)).mono ?_
    rintro e w4 ⟨rfl, c4⟩
    rw [show okL true (M.pad (M.text a)) = a from HT.out.2, show okE true = 0 from rfl]
    have al4 := (Below.refl w4.heap.size w4).alloc (Nat.le_refl _) (.cells (nm M.zero8) 23)
    have A4 := Lib.hid ((A3.out.below c4).below al4)
    have G4 := Lib.hid (A3.out.below c4).lt
    have B4 := Lib.hid (step_ (step_ B3.out c4) al4)
    have N4 := Lib.hid (at_alloc w4 M.zero8)
    clear c4 A3 B3 al4
    go_wp2_with (first
      | (refine wpList_store_name rfl _ _ rfl w4.heap.size M.zero8 a rfl rfl N4.out rfl AL.out ?_; intro w5 N5 F5 L5; have A5 := Lib.hid (F5.out w.heap.size a (Nat.ne_of_lt G4.out) A4.out); have B5 := Lib.hid (L5.out w.heap.size w (Nat.le_of_lt G4.out) B4.out); clear F5 L5)
      | refine wpList_load_name rfl _ rfl w.heap.size a rfl A5.out AL.out ?_)
    refine (number_is a x _ AL.out AB HX).mono ?_
    rintro e w6 ⟨rfl, c6⟩
    have A6 := Lib.hid (A5.out.below c6)
    have N6 := Lib.hid (N5.out.below c6)
    have B6 := Lib.hid (step_ B5.out c6)
    clear c6 A5 N5 B5 N4 A4 B4
    go_wp2_with fail
    refine (from_is x a true _ HD HR).mono ?_
    rintro e w7 ⟨rfl, c7⟩
    rw [show okL true a = a from rfl, show okE true = 0 from rfl]
    have al7 := (Below.refl w7.heap.size w7).alloc (Nat.le_refl _) (.cells (nm M.zero8) 23)
    have A7 := Lib.hid ((A6.out.below c7).below al7)
    have N7 := Lib.hid ((N6.out.below c7).below al7)
    have G7 := Lib.hid (A6.out.below c7).lt
    have G8 := Lib.hid (N6.out.below c7).lt
    have B7 := Lib.hid (step_ (step_ B6.out c7) al7)
    have M7 := Lib.hid (at_alloc w7 M.zero8)
    clear c7 al7 A6 N6 B6
    go_wp2_with (first
      | (refine wpList_store_name rfl _ _ rfl w7.heap.size M.zero8 a rfl rfl M7.out rfl AL.out ?_; intro w8 M8 F8 L8; have A8 := Lib.hid (F8.out w.heap.size a (Nat.ne_of_lt G7.out) A7.out); have N8 := Lib.hid (F8.out w4.heap.size a (Nat.ne_of_lt G8.out) N7.out); have B8 := Lib.hid (L8.out w.heap.size w (Nat.le_of_lt G7.out) B7.out); clear F8 L8)
      | (refine wanted_on rfl ?_; refine wpList_load_name rfl _ rfl w.heap.size a rfl A8.out AL.out ?_)
      | (refine wanted_on rfl ?_; refine wpList_load_name rfl _ rfl w4.heap.size a rfl N8.out AL.out ?_)
      | (refine wanted_on rfl ?_; refine wpList_load_name rfl _ rfl w7.heap.size a rfl M8.out AL.out ?_))
    refine (some_is a true _ AL.out HN).mono ?_
    rintro e w9 ⟨rfl, c9⟩
    have B9 := Lib.hid (step_ B8.out c9)
    clear c9
    go_wp2_with fail
    refine (alive_is _).mono ?_
    rintro e wA ⟨rfl, cA⟩
    have BA := Lib.hid (step_ B9.out cA)
    clear cA
    go_wp2_with fail
    go_ret
    exact ⟨rfl, BA.out⟩
theorem nameBack_any (a b : List Int) (w : World) (ha : a.length = 8) (hba : M.Bytes a) (hb : b.length = 8) (hbb : M.Bytes b) :
    Calls Try.prog 5 #[.agg (nm a), .agg (nm b)] w fun e w' => e = .returned (.bool true) ∧ Below w.heap.size w w' := by
  have ne : ∀ {a b : List Int}, M.lessB a b = true → (a == b) = false := fun {a b} h => by
    rw [beq_eq_false_iff_ne]
    rintro rfl
    rw [M.less_self] at h
    cases h
  cases h1 : M.lessB a b with
  | true => exact nameBack_lt a b w ha hba hb hbb h1 (M.less_both h1) (ne h1)
  | false =>
    cases h2 : M.lessB b a with
    | true =>
      refine nameBack_gt a b w ha hba hb hbb h1 h2 ?_
      have := ne h2
      rw [beq_eq_false_iff_ne] at this ⊢
      exact fun h => this h.symm
    | false => exact nameBack_eq a b w ha hba hb hbb h1 h2 (by rw [M.less_same hba hbb (by omega) h1 h2]; simp)
end Go.Proofs.Ytkdpohgckefipaa
