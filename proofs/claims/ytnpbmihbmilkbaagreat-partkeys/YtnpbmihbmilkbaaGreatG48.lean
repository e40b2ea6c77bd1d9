/- The reference: sums, Keys, Clash, Pick; the size of a map of groups. alive of the statements. -/
import Derived.Test.YtnpbmihbmilkbaaGreatG47
import Derived.Test.YtnpbmihbmilkbaaGreatG43
namespace Go.Proofs.YtnpbmihbmilkbaaGreat
open Go.RowKit Go.Shelf Go.Maps
attribute [local go_sem] Oper.semAt_some
set_option maxRecDepth 100000 in
set_option maxHeartbeats 4000000 in
theorem refSums_is (seed : Int) (hU : Hid (Mx.U64 seed)) (A : Option Addr) (n cap : Nat) (s : List Am) (L : List Int) (w : World) (h : RowV w A n cap s) (hn : n ≤ 1000) (hL : Hid (s.map (hsum seed) = L)) : Calls Tryz.prog 24 #[.int .u64 seed, .slice A n cap] w (GivesU w L) := by
  have R1 := Lib.hid h
  clear h
  go_enter Tryz.func24, Tryz.ntmps24
  go_wp2_with fail
  go_loopw [5, 6] (fun o i wr => ∃ j : Nat, j ≤ n ∧ i = .int .i64 j ∧ OwnN wr w.heap.size o ((s.take j).map (hsum seed)) ∧ Below w.heap.size w wr) (fun _ i _ => n - (intOf i).toNat)
  case atStart => exact ⟨0, Nat.zero_le _, rfl, ownN_nil _ _, Below.refl _ _⟩
  case round =>
    obtain ⟨j, hj, rfl, ho, hb⟩ := hrel
    have OO := Lib.hid ho
    have BB := Lib.hid hb
    clear ho hb
    by_cases hlt : j < n
    · obtain ⟨G, p0, hE⟩ := (R1.out.below BB.out).elem j hlt
      have E := Lib.hid hE
      have TK := Lib.hid (take_getD (l := s) (j := j) (by have := R1.out.len; omega))
      obtain ⟨x, hx⟩ : ∃ x, s.getD j azero = x := ⟨_, rfl⟩
      rw [hx] at E TK
      have XO := Lib.hid (show x.Ok from E.out.ok)
      have XU := Lib.hid (hsum_U seed x)
      have SN := Lib.hid (show (s.take (j + 1)).map (hsum seed) = (s.take j).map (hsum seed) ++ [hsum seed x] by rw [TK.out, List.map_append]; rfl)
      have DL := Lib.hid (show ((s.take j).map (hsum seed)).length + [hsum seed x].length ≤ 30000 by have := List.length_take_le j s; simp; omega)
      clear hE hx
      go_wp2_with (first
        | (refine wpList_index rfl _ _ rfl A n cap G p0 j x _ rfl rfl (by first | rfl | omega) E.out ?_)
        | refine wpList_load_amx rfl _ rfl G p0 x rfl E.out.rg XO.out ?_)
      refine (refASum_is seed (hsum seed x) x _ XO.out hU (Lib.hid rfl)).mono ?_
      rintro e w4 ⟨rfl, b4⟩
      have B4 := Lib.hid (step_ BB.out b4)
      have O4 := Lib.hid (OO.out.below b4)
      clear b4
      go_wp2_with (first
        | (refine wpList_num1 Tryz.underlying24 rfl _ rfl (hsum seed x) rfl XU.out ?_; intro g6 w6 e6 N6 B6)
        | (obtain ⟨A0, c0, rfl⟩ := O4.out.shape; refine wpList_app_n Tryz.underlying24 rfl _ _ rfl w.heap.size _ (.slice (some ⟨g6, 0, none⟩) 1 1) _ [hsum seed x] rfl rfl (O4.out.below B6.out) N6.out DL.out (Nat.le_trans B4.out.size B6.out.size) ?_; intro D7 m7 c7 w7 e7 O7 B7 G7))
      go_roundw
      case rel => exact ⟨j + 1, by omega, by go_num, by rw [SN.out]; exact O7.out, (B4.out.trans (B6.out.mono B4.out.size)).trans B7.out⟩
      case measure => simp [intOf]; omega
    · obtain rfl : n = j := by omega
      have HS := Lib.hid (show s.take n = s from List.take_of_length_le (by have := R1.out.len; omega))
      go_wp2_with fail
      go_ret
      rw [HS.out, hL.out] at OO
      obtain ⟨A0, c0, rfl⟩ := OO.out.shape
      exact ⟨⟨A0, c0, rfl, OO.out.at_⟩, BB.out⟩
set_option maxRecDepth 100000 in
set_option maxHeartbeats 4000000 in
theorem refKeys_is (seed : Int) (hU : Hid (Mx.U64 seed)) (A : Option Addr) (n cap : Nat) (a : List Am) (L : List Int) (w : World) (h : RowV w A n cap a) (hn : n ≤ 600) (hL : Hid (keysS (hsum seed) (norm a) = L)) : Calls Tryz.prog 7 #[.int .u64 seed, .slice A n cap] w (GivesU w L) := by
  have H := Lib.hid h
  clear h
  go_enter Tryz.func7, Tryz.ntmps7
  go_wp2_with fail
  refine (refNorm_is A n cap a _ H.out (by omega)).mono ?_
  rintro e w1 ⟨⟨D, n1, cp, rfl, r1⟩, b1⟩
  have R1 := Lib.hid r1
  have B1 := Lib.hid b1
  have ln1 : n1 ≤ 600 := by have := norm_len a; have := r1.len; have := H.out.len; omega
  clear r1 b1
  go_wp2_with fail
  obtain ⟨m, hm⟩ : ∃ m, (norm a).map (hsum seed) = m := ⟨_, rfl⟩
  have HM := Lib.hid hm
  have RL := Lib.hid (show rise m = L by rw [← hm]; exact hL.out)
  have LM := Lib.hid (show m.length ≤ 1000 by rw [← hm, List.length_map, R1.out.len]; omega)
  clear hm
  refine (refSums_is seed hU D n1 cp (norm a) m _ R1.out (by omega) HM).mono ?_
  rintro e w2 h2
  obtain ⟨A2, c2, rfl, n2, b2⟩ := h2.shape
  have N2 := Lib.hid n2
  have B2 := Lib.hid (step_ B1.out b2)
  clear h2 n2 b2
  go_wp2_with fail
  refine (refRise_is A2 m.length c2 m L _ N2.out LM.out RL).mono ?_
  rintro e w3 h3
  obtain ⟨A3, c3, rfl, n3, b3⟩ := h3.shape
  have N3 := Lib.hid n3
  have B3 := Lib.hid (step_ B2.out b3)
  clear h3 n3 b3
  go_wp2_with fail
  go_ret
  exact ⟨⟨A3, c3, rfl, N3.out⟩, B3.out⟩
theorem refClash_is (seed : Int) (hU : Hid (Mx.U64 seed)) (A : Option Addr) (n cap : Nat) (a : List Am) (c : Bool) (w : World) (h : RowV w A n cap a) (hn : n ≤ 600) (hc : Hid (clashS (hsum seed) (norm a) = c)) :
    Calls Tryz.prog 11 #[.int .u64 seed, .slice A n cap] w fun e w' => e = .returned (.bool c) ∧ Below w.heap.size w w' := by
  have H := Lib.hid h
  clear h
  go_enter Tryz.func11, Tryz.ntmps11
  go_wp2_with fail
  refine (refKeys_is seed hU A n cap a _ _ H.out hn (Lib.hid rfl)).mono ?_
  rintro e w1 h1
  obtain ⟨A1, c1, rfl, n1, b1⟩ := h1.shape
  have B1 := Lib.hid b1
  clear h1 n1
  go_wp2_with fail
  refine (refNorm_is A n cap a _ (H.out.below B1.out) (by omega)).mono ?_
  rintro e w2 ⟨⟨D, n2, cp, rfl, r2⟩, b2⟩
  have L2 := Lib.hid r2.len
  have B2 := Lib.hid (step_ B1.out b2)
  have CC := Lib.hid (show decide ((keysS (hsum seed) (norm a)).length < n2) = c by
    rw [← hc.out, ← r2.len]; rfl)
  clear r2 b2 b1
  go_wp2_with fail
  go_ret
  exact ⟨ret_bool CC.out, B2.out⟩
set_option maxRecDepth 100000 in
set_option maxHeartbeats 4000000 in
theorem refPick_is (seed : Int) (hU : Hid (Mx.U64 seed)) (A : Option Addr) (n cap : Nat) (a : List Am) (A2 : Option Addr) (n2 cap2 : Nat) (m2 : List Int) (L : List Am) (w : World) (h : RowV w A n cap a) (hn : n ≤ 600) (h2 : NumsAt w (.slice A2 n2 cap2) m2) (hn2 : n2 ≤ 1000) (hL : Hid (pickS (hsum seed) m2 (norm a) = L)) :
    Calls Tryz.prog 14 #[.int .u64 seed, .slice A n cap, .slice A2 n2 cap2] w (GivesR w L) := by
  have H := Lib.hid h
  have H2 := Lib.hid h2
  clear h h2
  go_enter Tryz.func14, Tryz.ntmps14
  go_wp2_with fail
  refine (refNorm_is A n cap a _ H.out (by omega)).mono ?_
  rintro e w1 ⟨⟨D, n1, cp, rfl, r1⟩, b1⟩
  have R1 := Lib.hid r1
  have B1 := Lib.hid b1
  obtain ⟨s, hs⟩ : ∃ s, norm a = s := ⟨_, rfl⟩
  have ln1 : n1 ≤ 600 := by have := norm_len a; have := r1.len; have := H.out.len; omega
  rw [hs] at R1 hL
  clear r1 b1 hs
  go_wp2_with fail
  go_loopw [7, 8] (fun o i wr => ∃ j : Nat, j ≤ n1 ∧ i = .int .i64 j ∧ OwnR wr w1.heap.size o (pickS (hsum seed) m2 (s.take j)) ∧ Below w1.heap.size w1 wr) (fun _ i _ => n1 - (intOf i).toNat)
  case atStart => exact ⟨0, Nat.zero_le _, rfl, ownR_nil _ _, Below.refl _ _⟩
  case round =>
    obtain ⟨j, hj, rfl, ho, hb⟩ := hrel
    have OO := Lib.hid ho
    have BB := Lib.hid hb
    clear ho hb
    by_cases hlt : j < n1
    · obtain ⟨G, p0, hE⟩ := (R1.out.below BB.out).elem j hlt
      have E := Lib.hid hE
      have TK := Lib.hid (take_getD (l := s) (j := j) (by have := R1.out.len; omega))
      obtain ⟨x, hx⟩ : ∃ x, s.getD j azero = x := ⟨_, rfl⟩
      rw [hx] at E TK
      have XO := Lib.hid (show x.Ok from E.out.ok)
      have PS := Lib.hid (pickS_snoc (hsum seed) m2 (s.take j) x)
      have DL := Lib.hid (show (pickS (hsum seed) m2 (s.take j)).length ≤ 5000 by have := pickS_len (hsum seed) m2 (s.take j); have := List.length_take_le j s; omega)
      clear hE hx
      go_wp2_with (first
        | (refine wpList_index rfl _ _ rfl D n1 cp G p0 j x _ rfl rfl (by first | rfl | omega) E.out ?_)
        | refine wpList_load_amx rfl _ rfl G p0 x rfl E.out.rg XO.out ?_)
      refine (refASum_is seed (hsum seed x) x _ XO.out hU (Lib.hid rfl)).mono ?_
      rintro e w4 ⟨rfl, b4⟩
      have B4 := Lib.hid (step_ BB.out b4)
      have O4 := Lib.hid (OO.out.below b4)
      obtain ⟨G2, p2, hE2⟩ := (R1.out.below B4.out).elem j hlt
      have E2 := Lib.hid hE2
      rw [show s.getD j azero = x from (by
        have q := TK.out
        rw [take_getD (l := s) (j := j) (by have := R1.out.len; omega)] at q
        exact List.singleton_inj.1 (List.append_cancel_left q))] at E2
      clear b4 hE2
      go_wp2_with fail
      refine (has_is A2 n2 cap2 m2 (hsum seed x) _ _ ((H2.out.below B1.out).below B4.out) (by omega) (Lib.hid rfl)).mono ?_
      rintro e w5 ⟨rfl, rfl⟩
      cases hp : m2.contains (hsum seed x) with
      | true =>
        have SN := Lib.hid (show pickS (hsum seed) m2 (s.take (j + 1)) = pickS (hsum seed) m2 (s.take j) ++ [x] by rw [TK.out, PS.out, if_pos hp])
        clear hp
        go_wp2_with (first
          | (refine wpList_index rfl _ _ rfl D n1 cp G2 p2 j x _ rfl rfl (by first | rfl | omega) E2.out ?_)
          | refine wpList_load_amx rfl _ rfl G2 p2 x rfl E2.out.rg XO.out ?_
          | (refine wpList_one46 rfl _ rfl x rfl XO.out ?_; intro g6 w6 e6 N6 B6)
          | (obtain ⟨A0, c0, rfl⟩ := O4.out.shape; refine wpList_app rfl _ _ rfl w1.heap.size _ _ x g6 rfl rfl (O4.out.below B6.out) XO.out N6.out DL.out (Nat.le_trans B4.out.size B6.out.size) ?_; intro D7 m7 c7 w7 e7 O7 B7 G7))
        go_roundw
        case rel => exact ⟨j + 1, by omega, by go_num, by rw [SN.out]; exact O7.out, (B4.out.trans (B6.out.mono B4.out.size)).trans B7.out⟩
        case measure => simp [intOf]; omega
      | false =>
        have SN := Lib.hid (show pickS (hsum seed) m2 (s.take (j + 1)) = pickS (hsum seed) m2 (s.take j) by rw [TK.out, PS.out, hp]; exact if_neg Bool.false_ne_true)
        clear hp
        go_wp2_with fail
        go_roundw
        case rel => exact ⟨j + 1, by omega, by go_num, by rw [SN.out]; exact O4.out, B4.out⟩
        case measure => simp [intOf]; omega
    · obtain rfl : n1 = j := by omega
      have HS := Lib.hid (show s.take n1 = s from List.take_of_length_le (by have := R1.out.len; omega))
      go_wp2_with fail
      go_ret
      rw [HS.out, hL.out] at OO
      obtain ⟨A9, n9, c9, rfl, r9⟩ := OO.out.rowAt
      exact ⟨⟨A9, n9, c9, rfl, r9⟩, step_ B1.out BB.out⟩
end Go.Proofs.YtnpbmihbmilkbaaGreat
namespace Go.Proofs.YtnpbmihbmilkbaaGreat
open Go.RowKit Go.Shelf Go.Maps
attribute [local go_sem] Oper.semAt_some
theorem rowN_own1 {w : World} {g : Nat} {x : Am} (h : Blk w g 50 x.cells) (hx : x.Ok) : RowV w (some ⟨g, 0, none⟩) 1 1 [x] :=
  ⟨fun y hy => by rw [List.mem_singleton.1 hy]; exact hx, rfl, Nat.le_refl _, by unfold maxLen; decide, fun _ => ⟨g, 0, rfl, h.lt, fun i hi j v hv => by
    obtain rfl : i = 0 := by simpa using hi
    have := h.range j v hv
    simpa using this⟩⟩
def alN : List Int := [97, 0, 0, 0, 0, 0, 0, 0]
def alA : Am := ⟨⟨2, 1, alN, 0, 0⟩, ⟨3, M.zero8⟩⟩
theorem alN_bytes : M.Bytes alN := fun x hx => by simp [alN] at hx; omega
theorem alA_ok : alA.Ok := ⟨⟨rfl, alN_bytes, by decide, by decide, by decide, by decide, by decide, by decide, by decide, by decide⟩, ⟨rfl, zero8_bytes, by decide, by decide⟩⟩
theorem alA_right : alA.right = true := by decide
theorem built_alk : Tryz.prog.built 48 [(0, .int .u8 2), (1, .int .u16 1), (2, .agg (nm alN))] = some alA.k.cells.toArray := by kernel_rfl
theorem al_norm : norm [alA] = [alA] := norm_id (one_st alA_ok alA_right)
theorem al_keys (f : Am → Int) : keysS f (norm [alA]) = [f alA] := by rw [al_norm]; rfl
theorem al_pick (f : Am → Int) : pickS f [f alA] (norm [alA]) = [alA] := by
  rw [al_norm]
  unfold pickS
  rw [List.filter_cons_of_pos (by simp)]
  rfl
theorem al_clash (f : Am → Int) : clashS f (norm [alA]) = false := by rw [al_norm]; exact (clash_false f).2 (by simp)
theorem al_bkt : bktI 9223372036854775808 1 = 1 := by decide
theorem seven_U : Mx.U64 7 := ⟨by decide, by decide⟩
set_option maxRecDepth 100000 in
set_option maxHeartbeats 8000000 in
theorem alive_is (w : World) : Calls Tryz.prog 6 #[] w fun e w' => e = .returned (.bool true) ∧ Below w.heap.size w w' := by
  go_enter Tryz.func6, Tryz.ntmps6
  go_wp2_with (first
    | refine wpList_build rfl 40 _ rfl [(0, .int .u8 97)] rfl _ (built24_1 97) ?_
    | refine wpList_build rfl 48 _ rfl [(0, .int .u8 2), (1, .int .u16 1), (2, .agg (nm alN))] rfl _ built_alk ?_
    | refine wpList_build rfl 42 _ rfl [(0, .int .u64 3)] rfl _ (built30_1 3) ?_
    | refine wpList_build rfl 50 _ rfl [(0, .agg alA.k.cells.toArray), (1, .agg alA.v.cells.toArray)] rfl _ (built32_2 alA alA_ok) ?_
    | (refine wpList_one46 rfl _ rfl alA rfl alA_ok ?_; intro g1 w1 e1 N1 B1))
  have R1 := Lib.hid (rowN_own1 N1.out alA_ok)
  refine (keys_is 7 (Lib.hid seven_U) (some ⟨g1, 0, none⟩) 1 1 [alA] [hsum 7 alA] _ R1.out (by omega) (Lib.hid (al_keys _))).mono ?_
  rintro e w2 h2
  obtain ⟨A2, c2, rfl, n2, b2⟩ := h2.shape
  have N2 := Lib.hid n2
  have R2 := Lib.hid (R1.out.below b2)
  have B2 := Lib.hid (step_ B1.out b2)
  clear h2 n2 b2
  go_wp2_with fail
  refine (pick_is 7 (Lib.hid seven_U) (some ⟨g1, 0, none⟩) 1 1 [alA] A2 _ c2 [hsum 7 alA] [alA] _ R2.out (by omega) N2.out (by simp) (Lib.hid (al_pick _))).mono ?_
  rintro e w3 ⟨⟨A3, n3, c3, rfl, r3⟩, b3⟩
  have R3 := Lib.hid r3
  have R23 := Lib.hid (R2.out.below b3)
  have B3 := Lib.hid (step_ B2.out b3)
  have L3 := Lib.hid r3.len
  clear r3 b3
  go_wp2_with fail
  refine (rows_is A3 (some ⟨g1, 0, none⟩) n3 1 c3 1 [alA] [alA] true _ R3.out R23.out (by have := L3.out; simp at this; omega) (Lib.hid (by simp))).mono ?_
  rintro e w4 ⟨rfl, b4⟩
  have R4 := Lib.hid (R23.out.below b4)
  have B4 := Lib.hid (step_ B3.out b4)
  clear b4
  go_wp2_with fail
  refine (clash_is 7 (Lib.hid seven_U) (some ⟨g1, 0, none⟩) 1 1 [alA] false _ R4.out (by omega) (Lib.hid (al_clash _))).mono ?_
  rintro e w5 ⟨rfl, b5⟩
  have B5 := Lib.hid (step_ B4.out b5)
  clear b5
  go_wp2_with fail
  refine (bucket_is 9223372036854775808 1 1 _ (by decide) (Lib.hid al_bkt)).mono ?_
  rintro e w6 ⟨rfl, rfl⟩
  go_wp2_with fail
  go_ret
  exact ⟨rfl, B5.out⟩
end Go.Proofs.YtnpbmihbmilkbaaGreat
