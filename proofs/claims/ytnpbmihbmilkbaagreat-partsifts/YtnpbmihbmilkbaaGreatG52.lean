/- The walk of PartSifts. -/
import Derived.Test.YtnpbmihbmilkbaaGreatG48
namespace Go.Proofs.YtnpbmihbmilkbaaGreat
open Go.RowKit Go.Shelf Go.Maps
attribute [local go_sem] Oper.semAt_some
theorem bucketB_is (x bits r : Int) (w : World) (hx : 0 ≤ x ∧ x < 18446744073709551616) (hr : Hid (bktI x bits = r)) : Calls Tryz.prog 18 #[.int .u64 x, .int .i64 bits] w fun e w' => e = .returned (.int .i64 r) ∧ Below w.heap.size w w' :=
  (bucket_is x bits r w hx hr).mono fun _ _ h => ⟨h.1, h.2 ▸ Below.refl _ _⟩
theorem refBucketB_is (x bits r : Int) (w : World) (hx : 0 ≤ x ∧ x < 18446744073709551616) (hr : Hid (bktI x bits = r)) : Calls Tryz.prog 19 #[.int .u64 x, .int .i64 bits] w fun e w' => e = .returned (.int .i64 r) ∧ Below w.heap.size w w' :=
  (refBucket_is x bits r w hx hr).mono fun _ _ h => ⟨h.1, h.2 ▸ Below.refl _ _⟩
set_option maxRecDepth 100000 in
set_option maxHeartbeats 8000000 in
theorem partSifts_is (A : Option Addr) (n cap : Nat) (l : List Int) (A2 : Option Addr) (n2 cap2 : Nat) (m : List Int) (bits : Int) (w : World) (h : NumsAt w (.slice A n cap) l) (h2 : NumsAt w (.slice A2 n2 cap2) m) :
    Calls Tryz.prog 4 #[.slice A n cap, .slice A2 n2 cap2, .int .i64 bits] w fun e w' => e = .returned (.bool true) ∧ Below w.heap.size w w' := by
  have H := Lib.hid h
  have H2 := Lib.hid h2
  have HL := Lib.hid h.len
  have NL := Lib.hid h.nums
  clear h h2
  by_cases hb1 : 60 < n
  · have hd1 : decide ((60 : Int) < (n : Int)) = true := decide_eq_true (by omega)
    go_enter Tryz.func4, Tryz.ntmps4
    go_wp2_with fail
    refine (alive_is _).mono ?_
    rintro e w1 ⟨rfl, b1⟩
    go_wp2_with fail
    go_ret
    exact ⟨rfl, b1⟩
  · have hd1 : decide ((60 : Int) < (n : Int)) = false := decide_eq_false (by omega)
    by_cases hb2 : 60 < n2
    · have hd2 : decide ((60 : Int) < (n2 : Int)) = true := decide_eq_true (by omega)
      go_enter Tryz.func4, Tryz.ntmps4
      go_wp2_with fail
      refine (alive_is _).mono ?_
      rintro e w1 ⟨rfl, b1⟩
      go_wp2_with fail
      go_ret
      exact ⟨rfl, b1⟩
    · have hd2 : decide ((60 : Int) < (n2 : Int)) = false := decide_eq_false (by omega)
      obtain ⟨P, hP⟩ : ∃ P, rise (inn l m) = P := ⟨_, rfl⟩
      obtain ⟨Q, hQ⟩ : ∃ Q, rise (out_ l m) = Q := ⟨_, rfl⟩
      have PL := Lib.hid (show P.length ≤ 1000 by rw [← hP]; have := rise_len (inn l m); have := inn_len l m; have := HL.out; omega)
      have QL := Lib.hid (show Q.length ≤ 1000 by rw [← hQ]; have := rise_len (out_ l m); have := out_len l m; have := HL.out; omega)
      have HP := Lib.hid hP
      have HQ := Lib.hid hQ
      clear hP hQ
      go_enter Tryz.func4, Tryz.ntmps4
      go_wp2_with fail
      refine (psift_is A n cap l A2 n2 cap2 m P Q _ H.out H2.out (by omega) (by omega) HP HQ).mono ?_
      rintro e w1 ⟨⟨A3, c3, A4, c4, rfl, n3, n4⟩, b1⟩
      have N3 := Lib.hid n3
      have N4 := Lib.hid n4
      have B1 := Lib.hid b1
      clear n3 n4 b1
      go_wp2_with fail
      refine (refSift_is A n cap l A2 n2 cap2 m P Q _ (H.out.below B1.out) (H2.out.below B1.out) (by omega) (by omega) HP HQ).mono ?_
      rintro e w2 ⟨⟨A5, c5, A6, c6, rfl, n5, n6⟩, b2⟩
      have N5 := Lib.hid n5
      have N6 := Lib.hid n6
      have N32 := Lib.hid (N3.out.below b2)
      have N42 := Lib.hid (N4.out.below b2)
      have B2 := Lib.hid (step_ B1.out b2)
      clear n5 n6 b2
      go_wp2_with fail
      go_loopw [11] (fun i wr => ∃ j : Nat, j ≤ n ∧ i = .int .i64 j ∧ Below w2.heap.size w2 wr) (fun i _ => n - (intOf i).toNat)
      case atStart => exact ⟨0, Nat.zero_le _, rfl, Below.refl _ _⟩
      case round =>
        obtain ⟨j, hj, rfl, hb⟩ := hrel
        have BB := Lib.hid hb
        clear hb
        by_cases hlt : j < n
        · obtain ⟨G, p, hE, hEc, -⟩ := (H.out.below (step_ B2.out BB.out)).elem j (by have := HL.out; omega)
          have E := Lib.hid hE
          have EC := Lib.hid hEc
          have NY := Lib.hid (NL.out.at_ j)
          obtain ⟨y, hy⟩ : ∃ y, l.getD j 0 = y := ⟨_, rfl⟩
          rw [hy] at EC NY
          obtain ⟨q, hq⟩ : ∃ q, bktI y bits = q := ⟨_, rfl⟩
          have HB := Lib.hid hq
          have bE : (q != q) = false := by simp
          clear hE hEc hy hq
          go_wp2_with fail
          refine region_later (by kernel_rfl) (by kernel_rfl) ?_
          go_big_quiet_step (fail)
          go_big_quiet_step (fail)
          (go_big_quiet_want; refine quiet_val _ (fun _ => exec_indexN Tryz.underlying24 _ _ rfl A n cap G p j _ rfl rfl (by first | rfl | omega) E.out) ?_; go_simp; go_big_quiet_on)
          (go_big_quiet_want; refine quiet_load_i Tryz.underlying22 G p y _ rfl rfl EC.out ?_; go_simp; go_big_quiet_on)
          go_big_quiet_step (fail)
          go_big_quiet_step (exact later_call (bucketB_is y bits q _ NY.out HB))
          go_big_quiet_step (fail)
          go_big_quiet_step (fail)
          (go_big_quiet_want; refine quiet_val _ (fun _ => exec_indexN Tryz.underlying24 _ _ rfl A n cap G p j _ rfl rfl (by first | rfl | omega) E.out) ?_; go_simp; go_big_quiet_on)
          (go_big_quiet_want; refine quiet_load_i Tryz.underlying22 G p y _ rfl rfl EC.out ?_; go_simp; go_big_quiet_on)
          go_big_quiet_step (fail)
          go_big_quiet_step (exact later_call (refBucketB_is y bits q _ NY.out HB))
          go_big_quiet_step (fail)
          refine wpQuiet_nil ?_
          intro w3 hw3
          have B3 := Lib.hid (step_ BB.out hw3)
          clear hw3
          go_wp2_with fail
          go_roundw
          case rel => exact ⟨j + 1, by omega, by go_num, B3.out⟩
          case measure => simp [intOf]; omega
        · obtain rfl : n = j := by omega
          go_wp2_with fail
          refine (numsame_is _ _ P P true _ (N32.out.below BB.out) (N5.out.below BB.out) (by have := PL.out; omega) (Lib.hid (by simp))).mono ?_
          rintro e w4 ⟨rfl, b4⟩
          have B4 := Lib.hid (step_ BB.out b4)
          clear b4
          go_wp2_with fail
          refine (numsame_is _ _ Q Q true _ (N42.out.below B4.out) (N6.out.below B4.out) (by have := QL.out; omega) (Lib.hid (by simp))).mono ?_
          rintro e w5 ⟨rfl, b5⟩
          have B5 := Lib.hid (step_ B4.out b5)
          clear b5
          go_wp2_with fail
          refine (alive_is _).mono ?_
          rintro e w6 ⟨rfl, b6⟩
          have B6 := Lib.hid (step_ B5.out b6)
          clear b6
          go_wp2_with fail
          go_ret
          exact ⟨rfl, step_ B2.out B6.out⟩
end Go.Proofs.YtnpbmihbmilkbaaGreat
