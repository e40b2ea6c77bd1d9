/- The walk of PartWhole. -/
import Derived.Test.YtnpbmihbmilkbaaGreatG48
namespace Go.Proofs.YtnpbmihbmilkbaaGreat
open Go.RowKit Go.Shelf Go.Maps
attribute [local go_sem] Oper.semAt_some
theorem refSameR_is (A A2 : Option Addr) (n m cap cap2 : Nat) (a b : List Am) (r : Bool) (w : World) (h : RowV w A n cap a) (h2 : RowV w A2 m cap2 b) (hn : n ≤ 600) (hm : m ≤ 600) (hr : Hid (decide (norm a = norm b) = r)) : Calls Tryz.prog 20 #[.slice A n cap, .slice A2 m cap2] w fun e w' => e = .returned (.bool r) ∧ Below w.heap.size w w' := by
  have H := Lib.hid h
  have H2 := Lib.hid h2
  clear h h2
  go_enter Tryz.func20, Tryz.ntmps20
  go_wp2_with fail
  refine (refNorm_is A n cap a _ H.out (by omega)).mono ?_
  rintro e w1 ⟨⟨D, n1, cp, rfl, r1⟩, b1⟩
  have R1 := Lib.hid r1
  have B1 := Lib.hid b1
  have ln1 : n1 ≤ 600 := by have := norm_len a; have := r1.len; have := H.out.len; omega
  clear r1 b1
  go_wp2_with fail
  refine (refNorm_is A2 m cap2 b _ (H2.out.below B1.out) (by omega)).mono ?_
  rintro e w2 ⟨⟨D2, n2, cp2, rfl, r2⟩, b2⟩
  have R2 := Lib.hid r2
  have R12 := Lib.hid (R1.out.below b2)
  have B2 := Lib.hid (step_ B1.out b2)
  clear r2 b2
  go_wp2_with fail
  refine (rows_is D D2 n1 n2 cp cp2 (norm a) (norm b) r _ R12.out R2.out (by omega) hr).mono ?_
  rintro e w3 ⟨rfl, b3⟩
  have B3 := Lib.hid (step_ B2.out b3)
  clear b3
  go_wp2_with fail
  go_ret
  exact ⟨rfl, B3.out⟩
theorem beq_not (c : Bool) : ((!c) == c) = false := by cases c <;> rfl
set_option maxRecDepth 100000 in
set_option maxHeartbeats 16000000 in
theorem partWhole_is (seed : Int) (hs0 : 0 ≤ seed ∧ seed < 18446744073709551616) (A : Option Addr) (n cap : Nat) (a : List Am) (A2 : Option Addr) (n2 cap2 : Nat) (b : List Am) (w : World) (h : RowV w A n cap a) (h2 : RowV w A2 n2 cap2 b) :
    Calls Tryz.prog 5 #[.int .u64 seed, .slice A n cap, .slice A2 n2 cap2] w fun e w' => e = .returned (.bool true) ∧ Below w.heap.size w w' := by
  have H := Lib.hid h
  have H2 := Lib.hid h2
  have hU : Hid (Mx.U64 seed) := Lib.hid hs0
  clear h h2
  by_cases hb1 : 30 < n
  · have hd1 : decide ((30 : Int) < (n : Int)) = true := decide_eq_true (by omega)
    go_enter Tryz.func5, Tryz.ntmps5
    go_wp2_with fail
    refine (alive_is _).mono ?_
    rintro e w1 ⟨rfl, b1⟩
    go_wp2_with fail
    go_ret
    exact ⟨rfl, b1⟩
  have hd1 : decide ((30 : Int) < (n : Int)) = false := decide_eq_false (by omega)
  by_cases hb2 : 30 < n2
  · have hd2 : decide ((30 : Int) < (n2 : Int)) = true := decide_eq_true (by omega)
    go_enter Tryz.func5, Tryz.ntmps5
    go_wp2_with fail
    refine (alive_is _).mono ?_
    rintro e w1 ⟨rfl, b1⟩
    go_wp2_with fail
    go_ret
    exact ⟨rfl, b1⟩
  have hd2 : decide ((30 : Int) < (n2 : Int)) = false := decide_eq_false (by omega)
  obtain ⟨s, hs⟩ : ∃ s, norm a = s := ⟨_, rfl⟩
  obtain ⟨t, ht⟩ : ∃ t, norm b = t := ⟨_, rfl⟩
  obtain ⟨L, hL⟩ : ∃ L, keysS (hsum seed) (norm a) = L := ⟨_, rfl⟩
  obtain ⟨M, hM⟩ : ∃ M, keysS (hsum seed) (norm b) = M := ⟨_, rfl⟩
  obtain ⟨c, hc⟩ : ∃ c, clashS (hsum seed) (norm a) = c := ⟨_, rfl⟩
  obtain ⟨P, hP⟩ : ∃ P, rise (inn L M) = P := ⟨_, rfl⟩
  obtain ⟨Q, hQ⟩ : ∃ Q, rise (out_ L M) = Q := ⟨_, rfl⟩
  obtain ⟨R, hR⟩ : ∃ R, pickS (hsum seed) Q (norm a) = R := ⟨_, rfl⟩
  have LL := Lib.hid (show L.length ≤ 30 by rw [← hL]; have := keysS_len (hsum seed) (norm a); have := norm_len a; have := H.out.len; omega)
  have ML := Lib.hid (show M.length ≤ 30 by rw [← hM]; have := keysS_len (hsum seed) (norm b); have := norm_len b; have := H2.out.len; omega)
  have QL := Lib.hid (show Q.length ≤ 30 by rw [← hQ]; have := rise_len (out_ L M); have := out_len L M; have := LL.out; omega)
  have RL := Lib.hid (show R.length ≤ 30 by rw [← hR]; have := pickS_len (hsum seed) Q (norm a); have := norm_len a; have := H.out.len; omega)
  have SL := Lib.hid (show s.length ≤ 30 by rw [← hs]; have := norm_len a; have := H.out.len; omega)
  have PA := Lib.hid (show pickS (hsum seed) L (norm a) = s by rw [← hL, ← hs]; exact pick_all _ _)
  have NN := Lib.hid (show decide (norm s = norm a) = true by rw [← hs]; exact decide_eq_true (norm_id (norm_st H.out.ok)))
  have OW := Lib.hid (show ∀ x ∈ R, x ∉ t from fun x hx => by
    rw [← hR, ← hQ, ← hL, ← hM] at hx
    rw [← ht]
    exact pick_own (hsum seed) hx)
  have CN := Lib.hid (show (((L.length : Int) == (s.length : Int)) == c) = false by
    have e : ((L.length : Int) == (s.length : Int)) = !c := by
      rw [← hc, ← clashS_not, hL, hs, Bool.eq_iff_iff, beq_iff_eq, decide_eq_true_iff]; omega
    rw [e]
    exact beq_not c)
  have RO := Lib.hid (show OkR R by rw [← hR]; exact (norm_st H.out.ok).ok.sub fun x hx => (List.mem_filter.1 hx).1)
  have GB := Lib.hid (show ∀ k v, gt b k = some v → (⟨k, v⟩ : Am) ∈ t from fun k v e => by
    rw [← fnd_norm H2.out.ok, ht] at e
    exact fnd_mem e)
  have NE := Lib.hid hs
  have HL := Lib.hid hL
  have HM := Lib.hid hM
  have HC := Lib.hid hc
  have HP := Lib.hid hP
  have HQ := Lib.hid hQ
  have HR := Lib.hid hR
  clear hs hL hc hP hQ hR hM ht hs0
  go_enter Tryz.func5, Tryz.ntmps5
  go_wp2_with fail
  refine (keys_is seed hU A n cap a L _ H.out (by omega) HL).mono ?_
  rintro e w1 h1
  obtain ⟨A1, c1, rfl, n1, b1⟩ := h1.shape
  have N1 := Lib.hid n1
  have B1 := Lib.hid b1
  clear h1 n1 b1
  go_wp2_with fail
  refine (keys_is seed hU A2 n2 cap2 b M _ (H2.out.below B1.out) (by omega) HM).mono ?_
  rintro e w2 h2
  obtain ⟨A3, c3, rfl, n3, b3⟩ := h2.shape
  have M2 := Lib.hid n3
  have N2 := Lib.hid (N1.out.below b3)
  have B2 := Lib.hid (step_ B1.out b3)
  clear h2 n3 b3
  go_wp2_with fail
  refine (pick_is seed hU A n cap a A1 _ c1 L s _ (H.out.below B2.out) (by omega) N2.out (by have := LL.out; omega) PA).mono ?_
  rintro e w3 ⟨⟨A4, n4, c4, rfl, r4⟩, b3⟩
  have R4 := Lib.hid r4
  have L4 := Lib.hid (show n4 = s.length from r4.len.symm)
  have M3 := Lib.hid (M2.out.below b3)
  have N3 := Lib.hid (N2.out.below b3)
  have B3 := Lib.hid (step_ B2.out b3)
  clear r4 b3
  go_wp2_with fail
  refine (refSameR_is A4 A n4 n c4 cap s a true _ R4.out (H.out.below B3.out) (by have := L4.out; have := SL.out; omega) (by omega) NN).mono ?_
  rintro e w4 ⟨rfl, b4⟩
  have M4 := Lib.hid (M3.out.below b4)
  have N4 := Lib.hid (N3.out.below b4)
  have B4 := Lib.hid (step_ B3.out b4)
  clear b4
  go_wp2_with fail
  refine (refNorm_is A n cap a _ (H.out.below B4.out) (by omega)).mono ?_
  rintro e w5 ⟨⟨A5, n5, c5, rfl, r5⟩, b5⟩
  have L5 := Lib.hid (show n5 = s.length by rw [← NE.out]; exact r5.len.symm)
  have hl5 := L5.out
  subst hl5
  have M5 := Lib.hid (M4.out.below b5)
  have N5 := Lib.hid (N4.out.below b5)
  have B5 := Lib.hid (step_ B4.out b5)
  have hCN := CN.out
  clear r5 b5
  go_wp2_with fail
  refine (clash_is seed hU A n cap a c _ (H.out.below B5.out) (by omega) HC).mono ?_
  rintro e w6 ⟨rfl, b6⟩
  have M6 := Lib.hid (M5.out.below b6)
  have N6 := Lib.hid (N5.out.below b6)
  have B6 := Lib.hid (step_ B5.out b6)
  clear b6
  go_wp2_with fail
  refine (psift_is A1 _ c1 L A3 _ c3 M P Q _ N6.out M6.out (by have := LL.out; omega) (by have := ML.out; omega) HP HQ).mono ?_
  rintro e w7 ⟨⟨A6, c6, A7, c7, rfl, _, n7⟩, b7⟩
  have N7 := Lib.hid n7
  have B7 := Lib.hid (step_ B6.out b7)
  clear n7 b7
  go_wp2_with fail
  refine (pick_is seed hU A n cap a A7 _ c7 Q R _ (H.out.below B7.out) (by omega) N7.out (by have := QL.out; omega) HR).mono ?_
  rintro e w8 ⟨⟨A8, n8, c8, rfl, r8⟩, b8⟩
  have R8 := Lib.hid r8
  have L8 := Lib.hid (show n8 ≤ 30 by have := r8.len; have := RL.out; omega)
  have B8 := Lib.hid (step_ B7.out b8)
  have HB8 := Lib.hid (H2.out.below B8.out)
  clear r8 b8
  have hz := zero30
  go_wp2_with fail
  go_loopw [12] (fun i wr => ∃ j : Nat, j ≤ n8 ∧ i = .int .i64 j ∧ Below w8.heap.size w8 wr) (fun i _ => n8 - (intOf i).toNat)
  case atStart => exact ⟨0, Nat.zero_le _, rfl, Below.refl _ _⟩
  case round =>
    obtain ⟨j, hj, rfl, hb⟩ := hrel
    have BB := Lib.hid hb
    have hL8 := L8.out
    clear hb
    by_cases hlt : j < n8
    · obtain ⟨G, p, hE⟩ := (R8.out.below BB.out).elem j hlt
      have E := Lib.hid hE
      obtain ⟨x, hx⟩ : ∃ x, R.getD j azero = x := ⟨_, rfl⟩
      have XM := Lib.hid (show x ∈ R by
        rw [← hx, List.getD_eq_getElem?_getD, List.getElem?_eq_getElem (by have := R8.out.len; omega)]
        exact List.getElem_mem _)
      rw [hx] at E
      have XO := Lib.hid (show x.Ok from E.out.ok)
      obtain ⟨o, ho⟩ : ∃ o, gt b x.k = o := ⟨_, rfl⟩
      have HO := Lib.hid ho
      clear hE hx ho
      go_wp2_with (first
        | (refine wpList_index rfl _ _ rfl A8 n8 c8 G p j x _ rfl rfl (by first | rfl | omega) E.out ?_)
        | refine wpList_load_ky rfl _ rfl G p x.k rfl (range_ak E.out.rg) XO.out.k.ml ?_)
      refine (refFind_is A2 n2 cap2 b x.k o _ (HB8.out.below BB.out) XO.out.k (by omega) HO).mono ?_
      rintro e w9 ⟨rfl, b9⟩
      have B9 := Lib.hid (step_ BB.out b9)
      have E9 := Lib.hid (E.out.below b9)
      have OO := Lib.hid (show OkO o from HO.out ▸ (gt_ok H2.out.ok).o x.k)
      have OV := Lib.hid (show (o.getD vzero).Ok by
        cases o with
        | none => exact vzero_ok
        | some v => exact OO.out v rfl)
      have Z := Lib.hid (blk_alloc w9 42 vzero.cells)
      clear b9
      go_wp2_with (refine wpList_store_vl rfl _ _ rfl w9.heap.size vzero (o.getD vzero) rfl rfl Z.out rfl OV.out.tl ?_; intro w10 N10 O10; have B10 := Lib.hid (box_below O10.out))
      have E10 := Lib.hid (E9.out.below B10.out)
      cases ho : o with
      | none =>
        subst ho
        simp only [Option.isSome_none]
        refine region_later (by kernel_rfl) (by kernel_rfl) ?_
        go_big_quiet_step (fail)
        go_big_quiet_step (fail)
        go_big_quiet_step (fail)
        go_big_quiet_step (fail)
        go_big_quiet_step (fail)
        go_big_quiet_step (fail)
        go_big_quiet_step (fail)
        go_big_quiet_step (fail)
        go_big_quiet_step (fail)
        go_big_quiet_step (fail)
        refine wpQuiet_nil ?_
        intro w11 hw11
        have B11 := Lib.hid (step_ (step_ B9.out B10.out) hw11)
        clear hw11
        go_wp2_with fail
        go_roundw
        case rel => exact ⟨j + 1, by omega, by go_num, B11.out⟩
        case measure => simp [intOf]; omega
      | some v =>
        subst ho
        have VX := Lib.hid (show decide (v = x.v) = false from decide_eq_false fun e => by
          have q := GB.out x.k v HO.out
          rw [e] at q
          exact OW.out x XM.out q)
        simp only [Option.isSome_some]
        refine region_later (by kernel_rfl) (by kernel_rfl) ?_
        go_big_quiet_step (fail)
        go_big_quiet_step (fail)
        (go_big_quiet_want; refine quiet_load_vl w9.heap.size 0 v _ rfl rfl N10.out.drew.range N10.out.drew.lt OV.out.tl ?_; go_simp; go_big_quiet_on)
        go_big_quiet_step (fail)
        go_big_quiet_step (fail)
        (go_big_quiet_want; refine quiet_index _ _ rfl A8 n8 c8 G p j x _ rfl rfl (by first | rfl | omega) E10.out ?_; go_simp; go_big_quiet_on)
        go_big_quiet_step (fail)
        (go_big_quiet_want; refine quiet_load_vl G (p + 12) x.v _ rfl rfl (range_av E10.out.rg E10.out.ok) E10.out.blk XO.out.v.tl ?_; go_simp; go_big_quiet_on)
        (go_big_quiet_want; refine quiet_val _ (fun _ => by rw [exec_eq_vl _ _ _ rfl v x.v rfl rfl OV.out.tl XO.out.v.tl, VX.out]) ?_; go_simp; go_big_quiet_on)
        go_big_quiet_step (fail)
        refine wpQuiet_nil ?_
        intro w11 hw11
        have B11 := Lib.hid (step_ (step_ B9.out B10.out) hw11)
        clear hw11
        go_wp2_with fail
        go_roundw
        case rel => exact ⟨j + 1, by omega, by go_num, B11.out⟩
        case measure => simp [intOf]; omega
    · obtain rfl : n8 = j := by omega
      go_wp2_with fail
      refine (alive_is _).mono ?_
      rintro e w10 ⟨rfl, b10⟩
      have B10 := Lib.hid (step_ BB.out b10)
      clear b10
      go_wp2_with fail
      go_ret
      exact ⟨rfl, step_ B8.out B10.out⟩
end Go.Proofs.YtnpbmihbmilkbaaGreat
