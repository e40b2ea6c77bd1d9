/- The walk of the law TagsWin. Written by wip/tools/lawwin_r14.py. -/
import Derived.Test.YtdigbipfchgjmaaGreatLawT
import Derived.Test.YtdigbipfchgjmaaGreatFindsB
namespace Go.Proofs.YtdigbipfchgjmaaGreat
open Go.RowKit

theorem cont_snoc (l : List Ky) (x y : Ky) : (l ++ [y]).contains x = (l.contains x || decide (x = y)) := by
  rw [Bool.eq_iff_iff]
  simp
theorem add3_is (A : Option Addr) (n cap : Nat) (a : List Am) (c : Int) (m : List Int) (e0 : Int) (l : List Am) (w : World) (h : RowV w A n cap a) (hn : n ≤ 600) (hm : NOk m) (hc : 0 ≤ c ∧ c < 65536) (he : Hid (addE a 3 m = e0)) (hl : Hid (addL a 3 c m = l)) :
    Calls Tryz.prog 18 #[.slice A n cap, .int .u8 3, .int .u16 c, .agg (nm m)] w (GivesRE w l e0) := add_is A n cap a 3 c m e0 l w h hn hm hc he hl
theorem addE_next {a : List Am} {m : List Int} (h : addE a 3 m = 0) : nextE a 3 = 0 := by
  unfold addE at h
  split at h
  · exact h
  · cases h
theorem addE_right {a : List Am} {m : List Int} (h : addE a 3 m = 0) : M.rightB m = true := by
  unfold addE at h
  split at h
  · assumption
  · cases h
theorem addL3 {a : List Am} {c : Int} {m : List Int} {l : List Am} (h : addE a 3 m = 0) (hl : addL a 3 c m = l) : addR (addK c m 3 (nextN a 3)) = l := by
  rw [← hl]; unfold addL; rw [if_pos h]; rfl
theorem nextN_eq {a : List Am} (h : nextE a 3 = 0) : nextN a 3 = (vof (norm a)).getD 3 0 + 1 := by unfold nextN; rw [if_pos h]
theorem addE_not {a : List Am} {m : List Int} (h : addE a 3 m ≠ 0) : ((addE a 3 m == 1) == !M.rightB m) = true := by
  cases hr : M.rightB m with
  | false =>
    have e : addE a 3 m = 1 := by unfold addE; rw [hr]; rfl
    rw [e]; rfl
  | true =>
    have e : addE a 3 m = nextE a 3 := by unfold addE; rw [hr]; rfl
    rw [e] at h ⊢
    by_cases hs : (vof (norm a)).getD 3 0 = 4294967295
    · rw [nextE_full (by omega) hs]; rfl
    · exact absurd (nextE_ok (by omega) hs) h
set_option maxRecDepth 100000 in
set_option maxHeartbeats 32000000 in
theorem tagsWin_is (A A2 : Option Addr) (n cap n2 cap2 : Nat) (a b : List Am) (c : Int) (m : List Int) (w : World) (h1 : RowV w A n cap a) (h2 : RowV w A2 n2 cap2 b) (hm : NOk m) (hcr : 0 ≤ c ∧ c < 65536) :
    Calls Tryz.prog 5 #[.slice A n cap, .slice A2 n2 cap2, .agg (spc c m).toArray] w fun e w' => e = .returned (.bool true) ∧ Below w.heap.size w w' := by
  have H1 := Lib.hid h1
  have H2 := Lib.hid h2
  have HM := Lib.hid hm
  have HCR := Lib.hid hcr
  clear h1 h2 hm hcr
  go_enter Tryz.func5, Tryz.ntmps5
  by_cases hc : 40 < n
  · have hc' : decide ((40 : Int) < (n : Int)) = true := decide_eq_true (by omega)
    go_wp2_with (first | go_skip | (refine wpList_box_cs rfl _ rfl (spc c m) rfl ?_; intro g0 w1 eg0 G0 b1; have c16 := G0.out.cell (i := 0) rfl; have R16 := Lib.hid (spc_nm G0.out)))
    clear c16
    refine (alive_is w1).mono ?_
    rintro e wz ⟨rfl, bz⟩
    have WZ := Lib.hid (step_ b1.out bz)
    clear bz
    go_wp2_with fail
    go_ret
    exact ⟨rfl, WZ.out⟩
  have hc' : decide ((40 : Int) < (n : Int)) = false := decide_eq_false (by omega)
  by_cases hl : 40 < n2
  · have hl' : decide ((40 : Int) < (n2 : Int)) = true := decide_eq_true (by omega)
    go_wp2_with (first | go_skip | (refine wpList_box_cs rfl _ rfl (spc c m) rfl ?_; intro g0 w1 eg0 G0 b1; have c16 := G0.out.cell (i := 0) rfl; have R16 := Lib.hid (spc_nm G0.out)))
    clear c16
    refine (alive_is w1).mono ?_
    rintro e wz ⟨rfl, bz⟩
    have WZ := Lib.hid (step_ b1.out bz)
    clear bz
    go_wp2_with fail
    go_ret
    exact ⟨rfl, WZ.out⟩
  have hl' : decide ((40 : Int) < (n2 : Int)) = false := decide_eq_false (by omega)
  obtain ⟨d, hd⟩ : ∃ x, dropT a c m = x := ⟨_, rfl⟩
  obtain ⟨gn, hgn⟩ : ∃ x, join a d = x := ⟨_, rfl⟩
  obtain ⟨gj, hgj⟩ : ∃ x, join gn b = x := ⟨_, rfl⟩
  obtain ⟨un, hun⟩ : ∃ x, unseenT a b c m = x := ⟨_, rfl⟩
  obtain ⟨c1, hc1⟩ : ∃ x, IntKind.u16.wrap (c + 1) = x := ⟨_, rfl⟩
  obtain ⟨e2, he2⟩ : ∃ x, addE a 3 m = x := ⟨_, rfl⟩
  obtain ⟨la, hla⟩ : ∃ x, addL a 3 c m = x := ⟨_, rfl⟩
  obtain ⟨r, hr⟩ : ∃ x, M.rightB m = x := ⟨_, rfl⟩
  have ED := Lib.hid hd
  have EG := Lib.hid hgn
  have EJ := Lib.hid hgj
  have EU := Lib.hid hun
  have HE2 := Lib.hid he2
  have HLA := Lib.hid hla
  have HR := Lib.hid hr
  have ER := Lib.hid (show e2 ≠ 0 → ((e2 == 1) == !r) = true from fun h => by rw [← he2, ← hr]; exact addE_not (by rw [he2]; exact h))
  have CN := Lib.hid (show c1 ≠ c by
    rw [← hc1]
    have h1 := HCR.out
    intro e
    have h2 : IntKind.u16.wrap (c + 1) = (c + 1) % 65536 := rfl
    rw [h2] at e
    omega)
  have PG := Lib.hid (show presT gn c m = false by rw [← hgn, ← hd]; exact law_gone H1.out.ok c m)
  have PU := Lib.hid (show presT gj c m = un by rw [← hgj, ← hgn, ← hd, ← hun]; exact law_unseen H1.out.ok H2.out.ok c m)
  have IG := Lib.hid (show itemsT gn c1 = itemsT a c1 by rw [← hgn, ← hd]; exact law_others H1.out.ok c m CN.out)
  have LA := Lib.hid (show (norm a).length ≤ 40 by have := norm_len a; have := H1.out.len; omega)
  have LB := Lib.hid (show (norm b).length ≤ 40 by have := norm_len b; have := H2.out.len; omega)
  have LD := Lib.hid (show d.length ≤ 40 by rw [← hd]; have := dropT_len a c m; have := LA.out; omega)
  have LG := Lib.hid (show gn.length ≤ 80 by rw [← hgn]; unfold join; have h9 := norm_len (a ++ d); have := LD.out; have := H1.out.len; rw [List.length_append] at h9; omega)
  have LJ := Lib.hid (show gj.length ≤ 120 by rw [← hgj]; unfold join; have h9 := norm_len (gn ++ b); have := LG.out; have := H2.out.len; rw [List.length_append] at h9; omega)
  have LL := Lib.hid (show (liveT b c m).length ≤ 40 by unfold liveT; have := pick_len (pth (pof c m)) (norm b); have := LB.out; omega)
  have LS := Lib.hid (show (seenT a c m).length ≤ 40 by unfold seenT; have := pick_len (pof c m) (norm a); have := LA.out; omega)
  have LI := Lib.hid (show (itemsT a c1).length ≤ 40 by unfold itemsT; have := nub_len (pick (pth (pin c1)) (norm a)); have := pick_len (pth (pin c1)) (norm a); have := LA.out; omega)
  have huu : (un != un) = false := by simp
  clear hd hgn hgj hun he2 hla hr
  go_wp2_with (first | go_skip | (refine wpList_box_cs rfl _ rfl (spc c m) rfl ?_; intro g0 w1 eg0 G0 b1; have c16 := G0.out.cell (i := 0) rfl; have R16 := Lib.hid (spc_nm G0.out)) | refine wpList_load_nm rfl _ rfl g0 1 m rfl R16.out HM.out.1 ?_)
  refine (drop_is A n cap a c m _ (H1.out.below b1.out) (by omega) HM.out.1).mono ?_
  rintro e w2 ⟨⟨Ad, nd, cd, rfl, vd⟩, bb⟩
  have WB2 := Lib.hid (step_ b1.out bb)
  have BX2 := Lib.hid bb
  have VD_2 := Lib.hid vd
  clear c16 R16 bb vd
  have ck2 := (G0.out.below BX2.out).cell (i := 0) rfl
  have R2 := Lib.hid (spc_nm (G0.out.below BX2.out))
  rw [ED.out] at VD_2
  have ld := VD_2.out.len
  go_wp2_with (first | go_skip | refine wpList_load_nm rfl _ rfl g0 1 m rfl R2.out HM.out.1 ?_)
  refine (refJoin_is A Ad n nd cap cd a d _ (H1.out.below WB2.out) VD_2.out (by omega) (by have := LD.out; omega)).mono ?_
  rintro e w3 ⟨⟨Ag, ng, cg, rfl, vg⟩, bb⟩
  have WB3 := Lib.hid (step_ WB2.out bb)
  have BX3 := Lib.hid (step_ BX2.out bb)
  have VG_3 := Lib.hid vg
  clear bb WB2 BX2 VD_2 vg ck2 R2
  have ck3 := (G0.out.below BX3.out).cell (i := 0) rfl
  have R3 := Lib.hid (spc_nm (G0.out.below BX3.out))
  rw [EG.out] at VG_3
  have hg600 : ng ≤ 600 := by have := VG_3.out.len; have := LG.out; omega
  clear ld
  go_wp2_with (first | go_skip | refine wpList_load_nm rfl _ rfl g0 1 m rfl R3.out HM.out.1 ?_)
  refine (present_is Ag ng cg gn c m false _ VG_3.out hg600 HM.out.1 PG).mono ?_
  rintro e w4 ⟨rfl, bb⟩
  have WB4 := Lib.hid (step_ WB3.out bb)
  have BX4 := Lib.hid (step_ BX3.out bb)
  have VG_4 := Lib.hid (VG_3.out.below bb)
  clear bb WB3 BX3 VG_3 ck3 R3
  have ck4 := (G0.out.below BX4.out).cell (i := 0) rfl
  have R4 := Lib.hid (spc_nm (G0.out.below BX4.out))
  go_wp2_with (first | go_skip | refine wpList_load_nm rfl _ rfl g0 1 m rfl R4.out HM.out.1 ?_)
  refine ((live_is A2 n2 cap2 b c m _ (H2.out.below WB4.out) (by omega) HM.out.1).mono fun _ _ h => h.row).mono ?_
  rintro e w5 ⟨⟨Al, nl, cl, rfl, vl⟩, bb⟩
  have WB5 := Lib.hid (step_ WB4.out bb)
  have BX5 := Lib.hid (step_ BX4.out bb)
  have VG_5 := Lib.hid (VG_4.out.below bb)
  have VL_5 := Lib.hid vl
  clear bb WB4 BX4 VG_4 vl ck4 R4
  have ck5 := (G0.out.below BX5.out).cell (i := 0) rfl
  have R5 := Lib.hid (spc_nm (G0.out.below BX5.out))
  go_wp2_with (first | go_skip | refine wpList_load_nm rfl _ rfl g0 1 m rfl R5.out HM.out.1 ?_)
  refine ((seen_is A n cap a c m _ (H1.out.below WB5.out) (by omega) HM.out.1).mono fun _ _ h => h.row).mono ?_
  rintro e w6 ⟨⟨As, ns, cs, rfl, vs⟩, bb⟩
  have WB6 := Lib.hid (step_ WB5.out bb)
  have BX6 := Lib.hid (step_ BX5.out bb)
  have VG_6 := Lib.hid (VG_5.out.below bb)
  have VL_6 := Lib.hid (VL_5.out.below bb)
  have VS_6 := Lib.hid vs
  clear bb WB5 BX5 VG_5 VL_5 vs ck5 R5
  have ck6 := (G0.out.below BX6.out).cell (i := 0) rfl
  have R6 := Lib.hid (spc_nm (G0.out.below BX6.out))
  obtain ⟨Li, hLi⟩ : ∃ L, liveT b c m = L := ⟨_, rfl⟩
  obtain ⟨Se, hSe⟩ : ∃ L, seenT a c m = L := ⟨_, rfl⟩
  rw [hLi] at VL_6
  rw [hSe] at VS_6
  have UN := Lib.hid (show (Li.any fun k => !Se.contains k) = un by rw [← hLi, ← hSe]; exact EU.out)
  have hl40 : nl ≤ 40 := by have := VL_6.out.len; have := LL.out; rw [hLi] at this; omega
  have hs40 : ns ≤ 40 := by have := VS_6.out.len; have := LS.out; rw [hSe] at this; omega
  clear hLi hSe
  go_wp2_with (first | go_skip | refine wpList_load_nm rfl _ rfl g0 1 m rfl R6.out HM.out.1 ?_)
  go_loopw [9, 12] (fun u i wr => ∃ i1 : Nat, i1 ≤ nl ∧ i = .int .i64 i1 ∧ u = .bool ((Li.take i1).any fun k => !Se.contains k) ∧ Below w6.heap.size w6 wr) (fun _ i _ => nl - (intOf i).toNat)
  case atStart => exact ⟨0, Nat.zero_le _, rfl, rfl, Below.refl _ _⟩
  case round =>
    obtain ⟨i1, hi1, rfl, rfl, hb⟩ := hrel
    have BB := Lib.hid hb
    clear hb
    by_cases hlt : i1 < nl
    · obtain ⟨G2, p2, hE⟩ := (VL_6.out.below BB.out).elem kzero i1 hlt
      have EX := Lib.hid hE
      have TK := Lib.hid (take_getK (l := Li) (j := i1) (by have := VL_6.out.len; omega))
      obtain ⟨x, hx⟩ : ∃ x, Li.getD i1 kzero = x := ⟨_, rfl⟩
      rw [hx] at EX TK
      obtain ⟨u0, hu0⟩ : ∃ u, ((Li.take i1).any fun k => !Se.contains k) = u := ⟨_, rfl⟩
      have U0 := Lib.hid hu0
      rw [hu0]
      clear hE hx hu0
      go_wp2_with fail
      go_loopw [13, 14] (fun v i wr2 => ∃ i2 : Nat, i2 ≤ ns ∧ i = .int .i64 i2 ∧ v = .bool (!(Se.take i2).contains x) ∧ Below wr.heap.size wr wr2) (fun _ i _ => ns - (intOf i).toNat)
      case atStart => exact ⟨0, Nat.zero_le _, rfl, rfl, Below.refl _ _⟩
      case round =>
        obtain ⟨i2, hi2, rfl, rfl, hb⟩ := hrel
        have BB2 := Lib.hid hb
        clear hb
        by_cases hlt2 : i2 < ns
        · obtain ⟨G1, p1, hE⟩ := ((VS_6.out.below BB.out).below BB2.out).elem kzero i2 hlt2
          have EY := Lib.hid hE
          have EX2 := Lib.hid (EX.out.below BB2.out)
          have TK2 := Lib.hid (take_getK (l := Se) (j := i2) (by have := VS_6.out.len; omega))
          obtain ⟨y, hy⟩ : ∃ y, Se.getD i2 kzero = y := ⟨_, rfl⟩
          rw [hy] at EY TK2
          clear hE hy
          cases hn : (Se.take i2).contains x with
          | true =>
            have HN := Lib.hid hn
            clear hn
            simp only [Bool.not_true]
            go_wp2_with fail
            refine region_later (by kernel_rfl) (by kernel_rfl) ?_
            repeat (first
              | go_big_quiet_skip
              | go_big_quiet_step (fail))
            refine wpQuiet_nil ?_
            intro wz hwz
            have BZ := Lib.hid hwz
            clear hwz
            go_wp2_with fail
            go_roundw
            case rel => exact ⟨i2 + 1, by omega, by go_num, by rw [TK2.out, cont_snoc, HN.out]; rfl, BB2.out.trans (BZ.out.mono BB2.out.size)⟩
            case measure => simp [intOf]; omega
          | false =>
            have HN := Lib.hid hn
            clear hn
            simp only [Bool.not_false]
            by_cases hxy : y = x
            · have HE := Lib.hid (show (!decide (y = x)) = false by simp [hxy])
              have HY := Lib.hid (show decide (x = y) = true by simp [hxy])
              clear hxy
              go_wp2_with fail
              refine region_later (by kernel_rfl) (by kernel_rfl) ?_
              repeat (first
                | go_big_quiet_skip
                | (go_big_quiet_want; refine quiet_indexG LK _ _ rfl As ns cs G1 p1 i2 y _ rfl rfl (by first | rfl | omega) EY.out ?_; go_simp; go_big_quiet_on)
                | (go_big_quiet_want; refine quiet_indexG LK _ _ rfl Al nl cl G2 p2 i1 x _ rfl rfl (by first | rfl | omega) EX2.out ?_; go_simp; go_big_quiet_on)
                | (go_big_quiet_want; refine quiet_load_kyx G1 p1 y _ rfl rfl EY.out.rg EY.out.blk EY.out.ok.ml ?_; go_simp; go_big_quiet_on)
                | (go_big_quiet_want; refine quiet_load_kyx G2 p2 x _ rfl rfl EX2.out.rg EX2.out.blk EX2.out.ok.ml ?_; go_simp; go_big_quiet_on)
                | (go_big_quiet_want; refine quiet_neq_ky _ _ _ rfl y x false rfl rfl EY.out.ok.ml EX2.out.ok.ml HE.out ?_; go_simp; go_big_quiet_on)
                | go_big_quiet_step (fail))
              refine wpQuiet_nil ?_
              intro wz hwz
              have BZ := Lib.hid hwz
              clear hwz
              go_wp2_with fail
              go_roundw
              case rel => exact ⟨i2 + 1, by omega, by go_num, by rw [TK2.out, cont_snoc, HN.out, HY.out]; rfl, BB2.out.trans (BZ.out.mono BB2.out.size)⟩
              case measure => simp [intOf]; omega
            · have HE := Lib.hid (show (!decide (y = x)) = true by simp [hxy])
              have HY := Lib.hid (show decide (x = y) = false from decide_eq_false (fun e => hxy e.symm))
              clear hxy
              go_wp2_with fail
              refine region_later (by kernel_rfl) (by kernel_rfl) ?_
              repeat (first
                | go_big_quiet_skip
                | (go_big_quiet_want; refine quiet_indexG LK _ _ rfl As ns cs G1 p1 i2 y _ rfl rfl (by first | rfl | omega) EY.out ?_; go_simp; go_big_quiet_on)
                | (go_big_quiet_want; refine quiet_indexG LK _ _ rfl Al nl cl G2 p2 i1 x _ rfl rfl (by first | rfl | omega) EX2.out ?_; go_simp; go_big_quiet_on)
                | (go_big_quiet_want; refine quiet_load_kyx G1 p1 y _ rfl rfl EY.out.rg EY.out.blk EY.out.ok.ml ?_; go_simp; go_big_quiet_on)
                | (go_big_quiet_want; refine quiet_load_kyx G2 p2 x _ rfl rfl EX2.out.rg EX2.out.blk EX2.out.ok.ml ?_; go_simp; go_big_quiet_on)
                | (go_big_quiet_want; refine quiet_neq_ky _ _ _ rfl y x true rfl rfl EY.out.ok.ml EX2.out.ok.ml HE.out ?_; go_simp; go_big_quiet_on)
                | go_big_quiet_step (fail))
              refine wpQuiet_nil ?_
              intro wz hwz
              have BZ := Lib.hid hwz
              clear hwz
              go_wp2_with fail
              go_roundw
              case rel => exact ⟨i2 + 1, by omega, by go_num, by rw [TK2.out, cont_snoc, HN.out, HY.out]; rfl, BB2.out.trans (BZ.out.mono BB2.out.size)⟩
              case measure => simp [intOf]; omega
        · obtain rfl : ns = i2 := by omega
          have HS := Lib.hid (show Se.take ns = Se from List.take_of_length_le (by have := VS_6.out.len; omega))
          rw [HS.out]
          have FU := Lib.hid (show ((Li.take (i1 + 1)).any fun k => !Se.contains k) = (u0 || !Se.contains x) by rw [TK.out, List.any_append, U0.out]; simp)
          cases u0 with
          | true =>
            go_wp2_with go_skip
            go_roundw
            case rel => exact ⟨i1 + 1, by omega, by go_num, by rw [FU.out]; rfl, BB.out.trans (BB2.out.mono BB.out.size)⟩
            case measure => simp [intOf]; omega
          | false =>
            obtain ⟨v0, hv0⟩ : ∃ v, (!Se.contains x) = v := ⟨_, rfl⟩
            have V0 := Lib.hid hv0
            rw [hv0]
            clear hv0
            go_wp2_with go_skip
            go_roundw
            case rel => exact ⟨i1 + 1, by omega, by go_num, by rw [FU.out, V0.out]; rfl, BB.out.trans (BB2.out.mono BB.out.size)⟩
            case measure => simp [intOf]; omega
    · obtain rfl : nl = i1 := by omega
      have HS := Lib.hid (show Li.take nl = Li from List.take_of_length_le (by have := VL_6.out.len; omega))
      rw [HS.out, UN.out]
      have WB := Lib.hid (step_ WB6.out BB.out)
      have BX := Lib.hid (step_ BX6.out BB.out)
      have VG := Lib.hid (VG_6.out.below BB.out)
      have ck := (G0.out.below BX.out).cell (i := 0) rfl
      have RR := Lib.hid (spc_nm (G0.out.below BX.out))
      clear BB WB6 BX6 VG_6 VL_6 VS_6 ck6 R6
      go_wp2_with fail
      have S0 := Lib.hid (show Below wr.heap.size wr wr.drew from below_drew (Below.refl _ _))
      have W0 := Lib.hid (step_ WB.out S0.out)
      refine wp_region_noPanic ?_
      refine wp_region_held_drew (S := fun W => Below wr.heap.size wr W) (by kernel_rfl) S0.out (fun _ => ?_)
      refine wpAnyH_take (i := 0) (oi := { dst := some 85, op := Go.Op.move (Go.Operand.tmp 8), type := 22, pos := _, after := #[], guard := none }) (v := ?_) rfl (by kernel_rfl) (by kernel_rfl) (by kernel_rfl) (fun _ _ _ h => h) (Or.inl ⟨by rfl, ?_⟩) S0.out ?_
      rotate_left
      · intro W hW; (go_simp; try with_reducible rfl)
      try simp only [Act.put, List.setIfInBounds_toArray, List.set_cons_zero, List.set_cons_succ]
      refine wpAnyH_take (i := 1) (oi := { dst := some 86, op := Go.Op.move (Go.Operand.tmp 1), type := 22, pos := _, after := #[], guard := none }) (v := ?_) rfl (by kernel_rfl) (by kernel_rfl) (by kernel_rfl) (fun _ _ _ h => h) (Or.inl ⟨by rfl, ?_⟩) S0.out ?_
      rotate_left
      · intro W hW; (go_simp; try with_reducible rfl)
      try simp only [Act.put, List.setIfInBounds_toArray, List.set_cons_zero, List.set_cons_succ]
      refine wpAnyH_take (i := 3) (oi := { dst := some 88, op := Go.Op.fieldAddr 27 (Go.Operand.tmp 5) 0, type := 0, pos := _, after := #[], guard := none }) (v := ?_) rfl (by kernel_rfl) (by kernel_rfl) (by kernel_rfl) (fun _ _ _ h => h) (Or.inl ⟨by rfl, ?_⟩) S0.out ?_
      rotate_left
      · intro W hW; (go_simp; try with_reducible rfl)
      try simp only [Act.put, List.setIfInBounds_toArray, List.set_cons_zero, List.set_cons_succ]
      refine wpAnyH_take (i := 4) (oi := { dst := some 89, op := Go.Op.load 23 (Go.Operand.tmp 88), type := 23, pos := _, after := #[{ on := 3, ground := Go.Ground.data }], guard := none }) (v := .int .u16 c) rfl (by kernel_rfl) (by kernel_rfl) (by kernel_rfl) (fun _ _ _ h => h) (Or.inl ⟨by rfl, fun W hW => exec_load_i Tryz.underlying23 (.tmp 88) rfl g0 0 c rfl ((G0.out.below (step_ BX.out hW)).cell (i := 0) rfl)⟩) S0.out ?_
      try simp only [Act.put, List.setIfInBounds_toArray, List.set_cons_zero, List.set_cons_succ]
      refine wpAnyH_take (i := 5) (oi := { dst := some 90, op := Go.Op.fieldAddr 27 (Go.Operand.tmp 5) 1, type := 0, pos := _, after := #[], guard := none }) (v := ?_) rfl (by kernel_rfl) (by kernel_rfl) (by kernel_rfl) (fun _ _ _ h => h) (Or.inl ⟨by rfl, ?_⟩) S0.out ?_
      rotate_left
      · intro W hW; (go_simp; try with_reducible rfl)
      try simp only [Act.put, List.setIfInBounds_toArray, List.set_cons_zero, List.set_cons_succ]
      refine wpAnyH_take (i := 6) (oi := { dst := some 91, op := Go.Op.load 25 (Go.Operand.tmp 90), type := 25, pos := _, after := #[{ on := 5, ground := Go.Ground.data }], guard := none }) (v := .agg (nmL m).toArray) rfl (by kernel_rfl) (by kernel_rfl) (by kernel_rfl) (fun _ _ _ h => h) (yieldsIf_load_mid (by rfl) 25 (.tmp 90) rfl g0 1 rfl (nmL m) _ (fun W hW => spc_nm (G0.out.below (step_ BX.out hW))) Tryz.underlying25 rfl (size_nmL HM.out.1)) S0.out ?_
      try simp only [Act.put, List.setIfInBounds_toArray, List.set_cons_zero, List.set_cons_succ]
      refine wpAnyH_take (i := 8) (oi := { dst := some 93, op := Go.Op.move (Go.Operand.tmp 9), type := 4, pos := _, after := #[], guard := none }) (v := ?_) rfl (by kernel_rfl) (by kernel_rfl) (by kernel_rfl) (fun _ _ _ h => h) (Or.inl ⟨by rfl, ?_⟩) S0.out ?_
      rotate_left
      · intro W hW; (go_simp; try with_reducible rfl)
      try simp only [Act.put, List.setIfInBounds_toArray, List.set_cons_zero, List.set_cons_succ]
      refine wpAnyH_ready (rs := [2]) (by kernel_rfl) (by simp) ?_
      refine AllReadyH.cons (o := { dst := some 87, op := Go.Op.call { callee := Go.Callee.value (Go.Operand.func 23), args := #[Go.Operand.tmp 85, Go.Operand.tmp 86], argTypes := #[22, 22] }, type := 22, pos := _, after := #[{ on := 0, ground := Go.Ground.data }, { on := 1, ground := Go.Ground.data }], guard := none }) rfl (fun K hK => ?_) AllReadyH.nil
      go_simp
      refine ((refJoin_is Ag A2 ng n2 cg cap2 gn b _ (VG.out.below S0.out) (H2.out.below W0.out) (by omega) (by omega)).mono fun _ _ h => (EJ.out ▸ h)).mono ?_
      rintro e w1 ⟨⟨Ax1, nx1, cx1, rfl, v1⟩, b1⟩
      have S1 := Lib.hid (step_ S0.out b1)
      have W1 := Lib.hid (step_ W0.out b1)
      have Vj_1 := Lib.hid v1
      clear v1
      clear b1
      go_wp2_with fail
      refine hK.out _ _ S1.out (fun _ => ?_)
      clear hK K
      try simp only [Act.put, List.setIfInBounds_toArray, List.set_cons_zero, List.set_cons_succ]
      refine wpAnyH_ready (rs := [7]) (by kernel_rfl) (by simp) ?_
      refine AllReadyH.cons (o := { dst := some 92, op := Go.Op.call { callee := Go.Callee.value (Go.Operand.func 12), args := #[Go.Operand.tmp 87, Go.Operand.tmp 89, Go.Operand.tmp 91], argTypes := #[22, 23, 25] }, type := 4, pos := _, after := #[{ on := 2, ground := Go.Ground.data }, { on := 4, ground := Go.Ground.data }, { on := 6, ground := Go.Ground.data }, { on := 2, ground := Go.Ground.chain }], guard := none }) rfl (fun K hK => ?_) AllReadyH.nil
      go_simp
      refine (present_is Ax1 nx1 cx1 gj c m un _ Vj_1.out (by have := Vj_1.out.len; have := LJ.out; omega) HM.out.1 PU).mono ?_
      rintro e w2 ⟨rfl, b2⟩
      have S2 := Lib.hid (step_ S1.out b2)
      have W2 := Lib.hid (step_ W1.out b2)
      clear b2
      go_wp2_with fail
      refine hK.out _ _ S2.out (fun _ => ?_)
      clear hK K
      try simp only [Act.put, List.setIfInBounds_toArray, List.set_cons_zero, List.set_cons_succ]
      refine wpAnyH_take (i := 9) (oi := { dst := some 94, op := Go.Op.binOp Go.BinOp.neq 4 (Go.Operand.tmp 92) (Go.Operand.tmp 93) 4, type := 4, pos := _, after := #[{ on := 7, ground := Go.Ground.data }, { on := 8, ground := Go.Ground.data }], guard := none }) (v := ?_) rfl (by kernel_rfl) (by kernel_rfl) (by kernel_rfl) (fun _ _ _ h => h) (Or.inl ⟨by rfl, ?_⟩) S2.out ?_
      rotate_left
      · intro W hW; (go_simp; try with_reducible rfl)
      try simp only [Act.put, List.setIfInBounds_toArray, List.set_cons_zero, List.set_cons_succ]
      refine wpAnyH_done (by kernel_rfl) ?_ _
      refine NoPanic.normal ?_
      have WA := Lib.hid W2.out
      have SA := Lib.hid S2.out
      have WB2 := WA
      have BX2 := Lib.hid (step_ BX.out SA.out)
      have VG_2 := Lib.hid (VG.out.below SA.out)
      clear WA SA W0 S0 WB BX VG ck RR
      have ck2 := (G0.out.below BX2.out).cell (i := 0) rfl
      have R2 := Lib.hid (spc_nm (G0.out.below BX2.out))
      go_wp2_with (first | go_skip | refine wpList_load_nm rfl _ rfl g0 1 m rfl R2.out HM.out.1 ?_)
      refine ((items_is A n cap a c1 _ (H1.out.below WB2.out) (by omega)).mono fun _ _ h => h.row).mono ?_
      rintro e w3 ⟨⟨Ao, no, co, rfl, vo⟩, bb⟩
      have WB3 := Lib.hid (step_ WB2.out bb)
      have BX3 := Lib.hid (step_ BX2.out bb)
      have VG_3 := Lib.hid (VG_2.out.below bb)
      have VO_3 := Lib.hid vo
      clear bb WB2 BX2 VG_2 vo ck2 R2
      have ck3 := (G0.out.below BX3.out).cell (i := 0) rfl
      have R3 := Lib.hid (spc_nm (G0.out.below BX3.out))
      go_wp2_with (first | go_skip | refine wpList_load_nm rfl _ rfl g0 1 m rfl R3.out HM.out.1 ?_)
      refine ((items_is Ag ng cg gn c1 _ VG_3.out hg600).mono fun _ _ h => h.row).mono ?_
      rintro e w4 ⟨⟨Ap, np, cp, rfl, vp⟩, bb⟩
      have WB4 := Lib.hid (step_ WB3.out bb)
      have BX4 := Lib.hid (step_ BX3.out bb)
      have VO_4 := Lib.hid (VO_3.out.below bb)
      have VP_4 := Lib.hid vp
      clear bb WB3 BX3 VG_3 VO_3 vp ck3 R3
      have ck4 := (G0.out.below BX4.out).cell (i := 0) rfl
      have R4 := Lib.hid (spc_nm (G0.out.below BX4.out))
      rw [IG.out] at VP_4
      go_wp2_with (first | go_skip | refine wpList_load_nm rfl _ rfl g0 1 m rfl R4.out HM.out.1 ?_)
      refine (namesT_is Ap Ao np no cp co _ _ true _ VP_4.out VO_4.out (by have := VP_4.out.len; have := LI.out; omega) (Lib.hid (decide_eq_true rfl))).mono ?_
      rintro e w5 ⟨rfl, bb⟩
      have WB5 := Lib.hid (step_ WB4.out bb)
      have BX5 := Lib.hid (step_ BX4.out bb)
      have VO_5 := Lib.hid (VO_4.out.below bb)
      clear bb WB4 BX4 VP_4 VO_4 ck4 R4
      have ck5 := (G0.out.below BX5.out).cell (i := 0) rfl
      have R5 := Lib.hid (spc_nm (G0.out.below BX5.out))
      go_wp2_with (first | go_skip | refine wpList_load_nm rfl _ rfl g0 1 m rfl R5.out HM.out.1 ?_)
      refine ((add3_is A n cap a c m e2 la _ (H1.out.below WB5.out) (by omega) HM.out HCR.out HE2 HLA)).mono ?_
      rintro e w6 ⟨⟨Aa, na, ca, rfl, va⟩, bb⟩
      have WB6 := Lib.hid (step_ WB5.out bb)
      have BX6 := Lib.hid (step_ BX5.out bb)
      have VO_6 := Lib.hid (VO_5.out.below bb)
      have VA_6 := Lib.hid va
      clear bb WB5 BX5 VO_5 va ck5 R5
      have ck6 := (G0.out.below BX6.out).cell (i := 0) rfl
      have R6 := Lib.hid (spc_nm (G0.out.below BX6.out))
      by_cases h0 : e2 = 0
      · subst h0
        obtain ⟨k0, hk0⟩ : ∃ k, addK c m 3 (nextN a 3) = k := ⟨_, rfl⟩
        have LE := Lib.hid (show addR k0 = la by rw [← hk0]; exact addL3 HE2.out HLA.out)
        have NR := Lib.hid (nextN_rg H1.out.ok (addE_next HE2.out))
        have KO := Lib.hid (show k0.Ok by rw [← hk0]; exact addK_ok HM.out HCR.out (by decide) (by have := NR.out.1; have := NR.out.2.1; omega))
        have ST := Lib.hid (show St (addR k0) by rw [← hk0]; exact addR_st (by rw [hk0]; exact KO.out) (addE_right HE2.out) (by decide) NR.out.1)
        have GN := Lib.hid (show gt a k0 = none from new_none H1.out.ok (by rw [← hk0]; rfl) (by rw [← hk0]; exact (by decide : (0 : Int) ≤ 3 ∧ (3 : Int) < 16)) (by rw [← hk0]; exact nextN_eq (addE_next HE2.out)))
        rw [← LE.out] at VA_6
        obtain ⟨j1, hj1⟩ : ∃ j, join a (addR k0) = j := ⟨_, rfl⟩
        obtain ⟨j2, hj2⟩ : ∃ j, join j1 b = j := ⟨_, rfl⟩
        have EJ1 := Lib.hid hj1
        have EJ2 := Lib.hid hj2
        have LJ1 := Lib.hid (show j1.length ≤ 41 by rw [← hj1]; unfold join; have h9 := norm_len (a ++ addR k0); have := H1.out.len; rw [List.length_append] at h9; have h1 : (addR k0).length = 1 := rfl; omega)
        have LJ2 := Lib.hid (show j2.length ≤ 81 by rw [← hj2]; unfold join; have h9 := norm_len (j1 ++ b); have := LJ1.out; have := H2.out.len; rw [List.length_append] at h9; omega)
        have IJ := Lib.hid (show itemsT j1 c1 = itemsT a c1 by rw [← hj1]; have h1 := ST.out; have h2 := GN.out; rw [← hk0] at h1 h2 ⊢; exact law_add_others H1.out.ok h1 h2 CN.out)
        have PP := Lib.hid (show gt b k0 = none → presT j2 c m = true from fun hh => by rw [← hj2, ← hj1]; have h1 := ST.out; have h2 := GN.out; rw [← hk0] at h1 h2 hh ⊢; exact law_added H1.out.ok H2.out.ok h1 h2 hh)
        clear hk0 hj1 hj2 HE2 HLA NR
        obtain rfl : 1 = na := VA_6.out.len
        obtain ⟨GA, pA, hEA⟩ := VA_6.out.elem 0 (by omega)
        have EA := Lib.hid (show ElemAt w6 Aa 1 GA pA 0 ⟨k0, there_⟩ from hEA)
        have EAK := Lib.hid (show w6.rangeAt GA pA k0.cells from fun i v hv => EA.out.rg i v (by rw [Am.cells, List.getElem?_append_left (List.getElem?_eq_some_iff.1 hv).1]; exact hv))
        clear hEA
        obtain ⟨o, ho⟩ : ∃ o, gt b k0 = o := ⟨_, rfl⟩
        have HO := Lib.hid ho
        have OV := Lib.hid (show (o.getD vzero).Ok from getD_ok (ho ▸ (gt_ok H2.out.ok).o k0))
        have PQ := Lib.hid (show o.isSome = false → presT j2 c m = true from fun h => PP.out (by rw [ho]; cases o with | none => rfl | some v => cases h))
        have hz := zero30
        clear ho PP
        go_wp2_with (first | go_skip | refine wpList_load_nm rfl _ rfl g0 1 m rfl R6.out HM.out.1 ?_ | refine wpList_index rfl _ _ rfl Aa 1 ca GA pA 0 ⟨k0, there_⟩ _ rfl rfl (by first | rfl | omega) EA.out ?_ | refine wpList_load_ky rfl _ rfl GA pA k0 rfl EAK.out KO.out.ml ?_)
        refine (refFind_is A2 n2 cap2 b k0 o _ (H2.out.below WB6.out) KO.out (by omega) HO).mono ?_
        rintro e w7 ⟨rfl, bb⟩
        have WB7 := Lib.hid (step_ WB6.out bb)
        have BX7 := Lib.hid (step_ BX6.out bb)
        have VO_7 := Lib.hid (VO_6.out.below bb)
        have VA_7 := Lib.hid (VA_6.out.below bb)
        clear bb WB6 BX6 VO_6 VA_6 ck6 R6
        have ck7 := (G0.out.below BX7.out).cell (i := 0) rfl
        have R7 := Lib.hid (spc_nm (G0.out.below BX7.out))
        have Z1 := Lib.hid (blk_alloc w7 52 vzero.cells)
        obtain ⟨vv, hvv⟩ : ∃ v, o.getD vzero = v := ⟨_, rfl⟩
        obtain ⟨hd, hhd⟩ : ∃ h, o.isSome = h := ⟨_, rfl⟩
        rw [hvv] at OV ⊢
        rw [hhd] at PQ ⊢
        clear hvv hhd
        go_wp2_with (first | go_skip | refine wpList_load_nm rfl _ rfl g0 1 m rfl R7.out HM.out.1 ?_ | (refine wpList_store_vl rfl _ _ rfl w7.heap.size vzero vv rfl rfl Z1.out rfl OV.out.tl ?_; intro wy NY OY; have bb := Lib.hid (box_below OY.out)))
        have WB8 := Lib.hid (step_ WB7.out bb.out)
        have BX8 := Lib.hid (step_ BX7.out bb.out)
        have VO_8 := Lib.hid (VO_7.out.below bb.out)
        have VA_8 := Lib.hid (VA_7.out.below bb.out)
        clear WB7 BX7 VO_7 VA_7 ck7 R7 bb NY OY Z1
        have ck8 := (G0.out.below BX8.out).cell (i := 0) rfl
        have R8 := Lib.hid (spc_nm (G0.out.below BX8.out))
        refine ((refJoin_is A Aa n 1 cap ca a (addR k0) _ (H1.out.below WB8.out) VA_8.out (by omega) (by omega)).mono fun _ _ h => (EJ1.out ▸ h)).mono ?_
        rintro e w9 ⟨⟨Ax, nx, cx, rfl, vx⟩, bb⟩
        have WB9 := Lib.hid (step_ WB8.out bb)
        have BX9 := Lib.hid (step_ BX8.out bb)
        have VO_9 := Lib.hid (VO_8.out.below bb)
        have VA_9 := Lib.hid (VA_8.out.below bb)
        have VX_9 := Lib.hid vx
        clear bb WB8 BX8 VO_8 VA_8 vx ck8 R8
        have ck9 := (G0.out.below BX9.out).cell (i := 0) rfl
        have R9 := Lib.hid (spc_nm (G0.out.below BX9.out))
        have hx41 : nx ≤ 41 := by have := VX_9.out.len; have := LJ1.out; omega
        go_wp2_with (first | go_skip | refine wpList_load_nm rfl _ rfl g0 1 m rfl R9.out HM.out.1 ?_)
        refine ((refJoin_is Ax A2 nx n2 cx cap2 j1 b _ VX_9.out (H2.out.below WB9.out) (by omega) (by omega)).mono fun _ _ h => (EJ2.out ▸ h)).mono ?_
        rintro e w10 ⟨⟨Ay, ny, cy, rfl, vy⟩, bb⟩
        have WB10 := Lib.hid (step_ WB9.out bb)
        have BX10 := Lib.hid (step_ BX9.out bb)
        have VO_10 := Lib.hid (VO_9.out.below bb)
        have VA_10 := Lib.hid (VA_9.out.below bb)
        have VY_10 := Lib.hid vy
        clear bb WB9 BX9 VX_9 VO_9 VA_9 vy ck9 R9
        have ck10 := (G0.out.below BX10.out).cell (i := 0) rfl
        have R10 := Lib.hid (spc_nm (G0.out.below BX10.out))
        have hy81 : ny ≤ 81 := by have := VY_10.out.len; have := LJ2.out; omega
        cases hd with
        | true =>
          go_wp2_with fail
          have S0 := Lib.hid (show Below w10.heap.size w10 w10.drew from below_drew (Below.refl _ _))
          have W0 := Lib.hid (step_ WB10.out S0.out)
          refine wp_region_noPanic ?_
          refine wp_region_held_drew (S := fun W => Below w10.heap.size w10 W) (by kernel_rfl) S0.out (fun _ => ?_)
          refine wpAnyH_take (i := 0) (oi := { dst := some 146, op := Go.Op.move (Go.Operand.tmp 19), type := 4, pos := _, after := #[], guard := none }) (v := ?_) rfl (by kernel_rfl) (by kernel_rfl) (by kernel_rfl) (fun _ _ _ h => h) (Or.inl ⟨by rfl, ?_⟩) S0.out ?_
          rotate_left
          · intro W hW; (go_simp; try with_reducible rfl)
          try simp only [Act.put, List.setIfInBounds_toArray, List.set_cons_zero, List.set_cons_succ]
          refine wpAnyH_take (i := 1) (oi := { dst := some 147, op := Go.Op.move (Go.Operand.tmp 146), type := 4, pos := _, after := #[{ on := 0, ground := Go.Ground.data }], guard := none }) (v := ?_) rfl (by kernel_rfl) (by kernel_rfl) (by kernel_rfl) (fun _ _ _ h => h) (Or.inl ⟨by rfl, ?_⟩) S0.out ?_
          rotate_left
          · intro W hW; (go_simp; try with_reducible rfl)
          try simp only [Act.put, List.setIfInBounds_toArray, List.set_cons_zero, List.set_cons_succ]
          refine wpAnyH_take (i := 2) (oi := { dst := some 148, op := Go.Op.move (Go.Operand.tmp 20), type := 22, pos := _, after := #[{ on := 1, ground := Go.Ground.guard }], guard := some (1, false) }) (v := undef) rfl (by kernel_rfl) (by kernel_rfl) (by kernel_rfl) (fun _ _ _ h => h) (Or.inr ⟨by rfl, rfl⟩) S0.out ?_
          try simp only [Act.put, List.setIfInBounds_toArray, List.set_cons_zero, List.set_cons_succ]
          refine wpAnyH_take (i := 3) (oi := { dst := some 149, op := Go.Op.fieldAddr 27 (Go.Operand.tmp 5) 0, type := 0, pos := _, after := #[{ on := 1, ground := Go.Ground.guard }], guard := some (1, false) }) (v := undef) rfl (by kernel_rfl) (by kernel_rfl) (by kernel_rfl) (fun _ _ _ h => h) (Or.inr ⟨by rfl, rfl⟩) S0.out ?_
          try simp only [Act.put, List.setIfInBounds_toArray, List.set_cons_zero, List.set_cons_succ]
          refine wpAnyH_take (i := 4) (oi := { dst := some 150, op := Go.Op.load 23 (Go.Operand.tmp 149), type := 23, pos := _, after := #[{ on := 3, ground := Go.Ground.data }, { on := 1, ground := Go.Ground.guard }], guard := some (1, false) }) (v := undef) rfl (by kernel_rfl) (by kernel_rfl) (by kernel_rfl) (fun _ _ _ h => h) (Or.inr ⟨by rfl, rfl⟩) S0.out ?_
          try simp only [Act.put, List.setIfInBounds_toArray, List.set_cons_zero, List.set_cons_succ]
          refine wpAnyH_take (i := 5) (oi := { dst := some 151, op := Go.Op.fieldAddr 27 (Go.Operand.tmp 5) 1, type := 0, pos := _, after := #[{ on := 1, ground := Go.Ground.guard }], guard := some (1, false) }) (v := undef) rfl (by kernel_rfl) (by kernel_rfl) (by kernel_rfl) (fun _ _ _ h => h) (Or.inr ⟨by rfl, rfl⟩) S0.out ?_
          try simp only [Act.put, List.setIfInBounds_toArray, List.set_cons_zero, List.set_cons_succ]
          refine wpAnyH_take (i := 6) (oi := { dst := some 152, op := Go.Op.load 25 (Go.Operand.tmp 151), type := 25, pos := _, after := #[{ on := 5, ground := Go.Ground.data }, { on := 1, ground := Go.Ground.guard }], guard := some (1, false) }) (v := undef) rfl (by kernel_rfl) (by kernel_rfl) (by kernel_rfl) (fun _ _ _ h => h) (Or.inr ⟨by rfl, rfl⟩) S0.out ?_
          try simp only [Act.put, List.setIfInBounds_toArray, List.set_cons_zero, List.set_cons_succ]
          refine wpAnyH_take (i := 7) (oi := { dst := some 153, op := Go.Op.call { callee := Go.Callee.value (Go.Operand.func 12), args := #[Go.Operand.tmp 148, Go.Operand.tmp 150, Go.Operand.tmp 152], argTypes := #[22, 23, 25] }, type := 4, pos := _, after := #[{ on := 2, ground := Go.Ground.data }, { on := 4, ground := Go.Ground.data }, { on := 6, ground := Go.Ground.data }, { on := 1, ground := Go.Ground.chain }, { on := 1, ground := Go.Ground.guard }], guard := some (1, false) }) (v := undef) rfl (by kernel_rfl) (by kernel_rfl) (by kernel_rfl) (fun _ _ _ h => h) (Or.inr ⟨by rfl, rfl⟩) S0.out ?_
          try simp only [Act.put, List.setIfInBounds_toArray, List.set_cons_zero, List.set_cons_succ]
          refine wpAnyH_take (i := 8) (oi := { dst := some 154, op := Go.Op.pick (Go.Operand.tmp 147) (Go.Operand.const (Go.Value.bool true)) (Go.Operand.tmp 153), type := 4, pos := _, after := #[{ on := 1, ground := Go.Ground.data }, { on := 7, ground := Go.Ground.data }], guard := none }) (v := ?_) rfl (by kernel_rfl) (by kernel_rfl) (by kernel_rfl) (fun _ _ _ h => h) (Or.inl ⟨by rfl, ?_⟩) S0.out ?_
          rotate_left
          · intro W hW; (go_simp; try with_reducible rfl)
          try simp only [Act.put, List.setIfInBounds_toArray, List.set_cons_zero, List.set_cons_succ]
          refine wpAnyH_take (i := 9) (oi := { dst := some 155, op := Go.Op.move (Go.Operand.tmp 154), type := 4, pos := _, after := #[{ on := 8, ground := Go.Ground.data }, { on := 7, ground := Go.Ground.chain }], guard := none }) (v := ?_) rfl (by kernel_rfl) (by kernel_rfl) (by kernel_rfl) (fun _ _ _ h => h) (Or.inl ⟨by rfl, ?_⟩) S0.out ?_
          rotate_left
          · intro W hW; (go_simp; try with_reducible rfl)
          try simp only [Act.put, List.setIfInBounds_toArray, List.set_cons_zero, List.set_cons_succ]
          refine wpAnyH_take (i := 10) (oi := { dst := some 156, op := Go.Op.move (Go.Operand.tmp 0), type := 22, pos := _, after := #[{ on := 9, ground := Go.Ground.guard }], guard := some (9, true) }) (v := ?_) rfl (by kernel_rfl) (by kernel_rfl) (by kernel_rfl) (fun _ _ _ h => h) (Or.inl ⟨by rfl, ?_⟩) S0.out ?_
          rotate_left
          · intro W hW; (go_simp; try with_reducible rfl)
          try simp only [Act.put, List.setIfInBounds_toArray, List.set_cons_zero, List.set_cons_succ]
          refine wpAnyH_take (i := 11) (oi := { dst := some 157, op := Go.Op.move (Go.Operand.tmp 16), type := 22, pos := _, after := #[{ on := 9, ground := Go.Ground.guard }], guard := some (9, true) }) (v := ?_) rfl (by kernel_rfl) (by kernel_rfl) (by kernel_rfl) (fun _ _ _ h => h) (Or.inl ⟨by rfl, ?_⟩) S0.out ?_
          rotate_left
          · intro W hW; (go_simp; try with_reducible rfl)
          try simp only [Act.put, List.setIfInBounds_toArray, List.set_cons_zero, List.set_cons_succ]
          refine wpAnyH_take (i := 13) (oi := { dst := some 159, op := Go.Op.fieldAddr 27 (Go.Operand.tmp 5) 0, type := 0, pos := _, after := #[{ on := 9, ground := Go.Ground.guard }], guard := some (9, true) }) (v := ?_) rfl (by kernel_rfl) (by kernel_rfl) (by kernel_rfl) (fun _ _ _ h => h) (Or.inl ⟨by rfl, ?_⟩) S0.out ?_
          rotate_left
          · intro W hW; (go_simp; try with_reducible rfl)
          try simp only [Act.put, List.setIfInBounds_toArray, List.set_cons_zero, List.set_cons_succ]
          refine wpAnyH_take (i := 14) (oi := { dst := some 160, op := Go.Op.load 23 (Go.Operand.tmp 159), type := 23, pos := _, after := #[{ on := 13, ground := Go.Ground.data }, { on := 9, ground := Go.Ground.guard }], guard := some (9, true) }) (v := .int .u16 c) rfl (by kernel_rfl) (by kernel_rfl) (by kernel_rfl) (fun _ _ _ h => h) (Or.inl ⟨by rfl, fun W hW => exec_load_i Tryz.underlying23 (.tmp 159) rfl g0 0 c rfl ((G0.out.below (step_ BX10.out hW)).cell (i := 0) rfl)⟩) S0.out ?_
          try simp only [Act.put, List.setIfInBounds_toArray, List.set_cons_zero, List.set_cons_succ]
          refine wpAnyH_take (i := 15) (oi := { dst := some 161, op := Go.Op.binOp Go.BinOp.add 23 (Go.Operand.tmp 160) (Go.Operand.const (Go.Value.int Go.IntKind.u16 1)) 23, type := 23, pos := _, after := #[{ on := 14, ground := Go.Ground.data }, { on := 9, ground := Go.Ground.guard }], guard := some (9, true) }) (v := ?_) rfl (by kernel_rfl) (by kernel_rfl) (by kernel_rfl) (fun _ _ _ h => h) (Or.inl ⟨by rfl, ?_⟩) S0.out ?_
          rotate_left
          · intro W hW; (go_simp; try with_reducible rfl)
          try simp only [Act.put, List.setIfInBounds_toArray, List.set_cons_zero, List.set_cons_succ]
          refine wpAnyH_take (i := 17) (oi := { dst := some 163, op := Go.Op.move (Go.Operand.tmp 15), type := 34, pos := _, after := #[{ on := 9, ground := Go.Ground.guard }], guard := some (9, true) }) (v := ?_) rfl (by kernel_rfl) (by kernel_rfl) (by kernel_rfl) (fun _ _ _ h => h) (Or.inl ⟨by rfl, ?_⟩) S0.out ?_
          rotate_left
          · intro W hW; (go_simp; try with_reducible rfl)
          try simp only [Act.put, List.setIfInBounds_toArray, List.set_cons_zero, List.set_cons_succ]
          refine wpAnyH_ready (rs := [12]) (by kernel_rfl) (by simp) ?_
          refine AllReadyH.cons (o := { dst := some 158, op := Go.Op.call { callee := Go.Callee.value (Go.Operand.func 23), args := #[Go.Operand.tmp 156, Go.Operand.tmp 157], argTypes := #[22, 22] }, type := 22, pos := _, after := #[{ on := 10, ground := Go.Ground.data }, { on := 11, ground := Go.Ground.data }, { on := 9, ground := Go.Ground.chain }, { on := 9, ground := Go.Ground.guard }], guard := some (9, true) }) rfl (fun K hK => ?_) AllReadyH.nil
          go_simp
          refine ((refJoin_is A Aa n 1 cap ca a (addR k0) _ (H1.out.below W0.out) (VA_10.out.below S0.out) (by omega) (by omega)).mono fun _ _ h => (EJ1.out ▸ h)).mono ?_
          rintro e w1 ⟨⟨Ax1, nx1, cx1, rfl, v1⟩, b1⟩
          have S1 := Lib.hid (step_ S0.out b1)
          have W1 := Lib.hid (step_ W0.out b1)
          have Vx_1 := Lib.hid v1
          clear v1
          clear b1
          go_wp2_with fail
          refine hK.out _ _ S1.out (fun _ => ?_)
          clear hK K
          try simp only [Act.put, List.setIfInBounds_toArray, List.set_cons_zero, List.set_cons_succ]
          refine wpAnyH_ready (rs := [16]) (by kernel_rfl) (by simp) ?_
          refine AllReadyH.cons (o := { dst := some 162, op := Go.Op.call { callee := Go.Callee.value (Go.Operand.func 14), args := #[Go.Operand.tmp 158, Go.Operand.tmp 161], argTypes := #[22, 23] }, type := 34, pos := _, after := #[{ on := 12, ground := Go.Ground.data }, { on := 15, ground := Go.Ground.data }, { on := 12, ground := Go.Ground.chain }, { on := 9, ground := Go.Ground.guard }], guard := some (9, true) }) rfl (fun K hK => ?_) AllReadyH.nil
          go_simp
          refine ((items_is Ax1 nx1 cx1 j1 c1 _ Vx_1.out (by have := Vx_1.out.len; have := LJ1.out; omega)).mono fun _ _ h => (IJ.out ▸ h.row)).mono ?_
          rintro e w2 ⟨⟨Ax2, nx2, cx2, rfl, v2⟩, b2⟩
          have S2 := Lib.hid (step_ S1.out b2)
          have W2 := Lib.hid (step_ W1.out b2)
          have Vi_2 := Lib.hid v2
          clear v2
          clear b2
          go_wp2_with fail
          refine hK.out _ _ S2.out (fun _ => ?_)
          clear hK K
          try simp only [Act.put, List.setIfInBounds_toArray, List.set_cons_zero, List.set_cons_succ]
          refine wpAnyH_ready (rs := [18]) (by kernel_rfl) (by simp) ?_
          refine AllReadyH.cons (o := { dst := some 164, op := Go.Op.call { callee := Go.Callee.value (Go.Operand.func 13), args := #[Go.Operand.tmp 162, Go.Operand.tmp 163], argTypes := #[34, 34] }, type := 4, pos := _, after := #[{ on := 16, ground := Go.Ground.data }, { on := 17, ground := Go.Ground.data }, { on := 16, ground := Go.Ground.chain }, { on := 9, ground := Go.Ground.guard }], guard := some (9, true) }) rfl (fun K hK => ?_) AllReadyH.nil
          go_simp
          refine (namesT_is Ax2 Ao nx2 no cx2 co _ _ true _ Vi_2.out (VO_10.out.below S2.out) (by have := Vi_2.out.len; have := LI.out; omega) (Lib.hid (decide_eq_true rfl))).mono ?_
          rintro e w3 ⟨rfl, b3⟩
          have S3 := Lib.hid (step_ S2.out b3)
          have W3 := Lib.hid (step_ W2.out b3)
          clear b3
          go_wp2_with fail
          refine hK.out _ _ S3.out (fun _ => ?_)
          clear hK K
          try simp only [Act.put, List.setIfInBounds_toArray, List.set_cons_zero, List.set_cons_succ]
          refine wpAnyH_take (i := 19) (oi := { dst := some 165, op := Go.Op.pick (Go.Operand.tmp 155) (Go.Operand.tmp 164) (Go.Operand.const (Go.Value.bool false)), type := 4, pos := _, after := #[{ on := 9, ground := Go.Ground.data }, { on := 18, ground := Go.Ground.data }], guard := none }) (v := ?_) rfl (by kernel_rfl) (by kernel_rfl) (by kernel_rfl) (fun _ _ _ h => h) (Or.inl ⟨by rfl, ?_⟩) S3.out ?_
          rotate_left
          · intro W hW; (go_simp; try with_reducible rfl)
          try simp only [Act.put, List.setIfInBounds_toArray, List.set_cons_zero, List.set_cons_succ]
          refine wpAnyH_take (i := 20) (oi := { dst := some 166, op := Go.Op.move (Go.Operand.tmp 165), type := 4, pos := _, after := #[{ on := 19, ground := Go.Ground.data }, { on := 18, ground := Go.Ground.chain }], guard := none }) (v := ?_) rfl (by kernel_rfl) (by kernel_rfl) (by kernel_rfl) (fun _ _ _ h => h) (Or.inl ⟨by rfl, ?_⟩) S3.out ?_
          rotate_left
          · intro W hW; (go_simp; try with_reducible rfl)
          try simp only [Act.put, List.setIfInBounds_toArray, List.set_cons_zero, List.set_cons_succ]
          refine wpAnyH_ready (rs := [21]) (by kernel_rfl) (by simp) ?_
          refine AllReadyH.cons (o := { dst := some 167, op := Go.Op.call { callee := Go.Callee.value (Go.Operand.func 6), args := #[], argTypes := #[] }, type := 4, pos := _, after := #[{ on := 20, ground := Go.Ground.chain }, { on := 20, ground := Go.Ground.guard }], guard := some (20, true) }) rfl (fun K hK => ?_) AllReadyH.nil
          go_simp
          refine (alive_is _).mono ?_
          rintro e w4 ⟨rfl, b4⟩
          have S4 := Lib.hid (step_ S3.out b4)
          have W4 := Lib.hid (step_ W3.out b4)
          clear b4
          go_wp2_with fail
          refine hK.out _ _ S4.out (fun _ => ?_)
          clear hK K
          try simp only [Act.put, List.setIfInBounds_toArray, List.set_cons_zero, List.set_cons_succ]
          refine wpAnyH_take (i := 22) (oi := { dst := some 168, op := Go.Op.pick (Go.Operand.tmp 166) (Go.Operand.tmp 167) (Go.Operand.const (Go.Value.bool false)), type := 4, pos := _, after := #[{ on := 20, ground := Go.Ground.data }, { on := 21, ground := Go.Ground.data }], guard := none }) (v := ?_) rfl (by kernel_rfl) (by kernel_rfl) (by kernel_rfl) (fun _ _ _ h => h) (Or.inl ⟨by rfl, ?_⟩) S4.out ?_
          rotate_left
          · intro W hW; (go_simp; try with_reducible rfl)
          try simp only [Act.put, List.setIfInBounds_toArray, List.set_cons_zero, List.set_cons_succ]
          refine wpAnyH_take (i := 23) (oi := { dst := some 6, op := Go.Op.assign (Go.Operand.tmp 168), type := 4, pos := _, after := #[{ on := 22, ground := Go.Ground.data }, { on := 21, ground := Go.Ground.chain }, { on := 0, ground := Go.Ground.phase }, { on := 1, ground := Go.Ground.phase }, { on := 2, ground := Go.Ground.phase }, { on := 3, ground := Go.Ground.phase }, { on := 4, ground := Go.Ground.phase }, { on := 5, ground := Go.Ground.phase }, { on := 6, ground := Go.Ground.phase }, { on := 7, ground := Go.Ground.phase }, { on := 8, ground := Go.Ground.phase }, { on := 9, ground := Go.Ground.phase }, { on := 10, ground := Go.Ground.phase }, { on := 11, ground := Go.Ground.phase }, { on := 12, ground := Go.Ground.phase }, { on := 13, ground := Go.Ground.phase }, { on := 14, ground := Go.Ground.phase }, { on := 15, ground := Go.Ground.phase }, { on := 16, ground := Go.Ground.phase }, { on := 17, ground := Go.Ground.phase }, { on := 18, ground := Go.Ground.phase }, { on := 19, ground := Go.Ground.phase }, { on := 20, ground := Go.Ground.phase }, { on := 21, ground := Go.Ground.phase }, { on := 22, ground := Go.Ground.phase }], guard := none }) (v := ?_) rfl (by kernel_rfl) (by kernel_rfl) (by kernel_rfl) (fun _ _ _ h => h) (Or.inl ⟨by rfl, ?_⟩) S4.out ?_
          rotate_left
          · intro W hW; (go_simp; try with_reducible rfl)
          try simp only [Act.put, List.setIfInBounds_toArray, List.set_cons_zero, List.set_cons_succ]
          refine wpAnyH_done (by kernel_rfl) ?_ _
          refine NoPanic.normal ?_
          go_wp2_with fail
          go_ret
          exact ⟨rfl, W4.out⟩
        | false =>
          have PJ := Lib.hid (PQ.out rfl)
          go_wp2_with fail
          have S0 := Lib.hid (show Below w10.heap.size w10 w10.drew from below_drew (Below.refl _ _))
          have W0 := Lib.hid (step_ WB10.out S0.out)
          refine wp_region_noPanic ?_
          refine wp_region_held_drew (S := fun W => Below w10.heap.size w10 W) (by kernel_rfl) S0.out (fun _ => ?_)
          refine wpAnyH_take (i := 0) (oi := { dst := some 146, op := Go.Op.move (Go.Operand.tmp 19), type := 4, pos := _, after := #[], guard := none }) (v := ?_) rfl (by kernel_rfl) (by kernel_rfl) (by kernel_rfl) (fun _ _ _ h => h) (Or.inl ⟨by rfl, ?_⟩) S0.out ?_
          rotate_left
          · intro W hW; (go_simp; try with_reducible rfl)
          try simp only [Act.put, List.setIfInBounds_toArray, List.set_cons_zero, List.set_cons_succ]
          refine wpAnyH_take (i := 1) (oi := { dst := some 147, op := Go.Op.move (Go.Operand.tmp 146), type := 4, pos := _, after := #[{ on := 0, ground := Go.Ground.data }], guard := none }) (v := ?_) rfl (by kernel_rfl) (by kernel_rfl) (by kernel_rfl) (fun _ _ _ h => h) (Or.inl ⟨by rfl, ?_⟩) S0.out ?_
          rotate_left
          · intro W hW; (go_simp; try with_reducible rfl)
          try simp only [Act.put, List.setIfInBounds_toArray, List.set_cons_zero, List.set_cons_succ]
          refine wpAnyH_take (i := 2) (oi := { dst := some 148, op := Go.Op.move (Go.Operand.tmp 20), type := 22, pos := _, after := #[{ on := 1, ground := Go.Ground.guard }], guard := some (1, false) }) (v := ?_) rfl (by kernel_rfl) (by kernel_rfl) (by kernel_rfl) (fun _ _ _ h => h) (Or.inl ⟨by rfl, ?_⟩) S0.out ?_
          rotate_left
          · intro W hW; (go_simp; try with_reducible rfl)
          try simp only [Act.put, List.setIfInBounds_toArray, List.set_cons_zero, List.set_cons_succ]
          refine wpAnyH_take (i := 3) (oi := { dst := some 149, op := Go.Op.fieldAddr 27 (Go.Operand.tmp 5) 0, type := 0, pos := _, after := #[{ on := 1, ground := Go.Ground.guard }], guard := some (1, false) }) (v := ?_) rfl (by kernel_rfl) (by kernel_rfl) (by kernel_rfl) (fun _ _ _ h => h) (Or.inl ⟨by rfl, ?_⟩) S0.out ?_
          rotate_left
          · intro W hW; (go_simp; try with_reducible rfl)
          try simp only [Act.put, List.setIfInBounds_toArray, List.set_cons_zero, List.set_cons_succ]
          refine wpAnyH_take (i := 4) (oi := { dst := some 150, op := Go.Op.load 23 (Go.Operand.tmp 149), type := 23, pos := _, after := #[{ on := 3, ground := Go.Ground.data }, { on := 1, ground := Go.Ground.guard }], guard := some (1, false) }) (v := .int .u16 c) rfl (by kernel_rfl) (by kernel_rfl) (by kernel_rfl) (fun _ _ _ h => h) (Or.inl ⟨by rfl, fun W hW => exec_load_i Tryz.underlying23 (.tmp 149) rfl g0 0 c rfl ((G0.out.below (step_ BX10.out hW)).cell (i := 0) rfl)⟩) S0.out ?_
          try simp only [Act.put, List.setIfInBounds_toArray, List.set_cons_zero, List.set_cons_succ]
          refine wpAnyH_take (i := 5) (oi := { dst := some 151, op := Go.Op.fieldAddr 27 (Go.Operand.tmp 5) 1, type := 0, pos := _, after := #[{ on := 1, ground := Go.Ground.guard }], guard := some (1, false) }) (v := ?_) rfl (by kernel_rfl) (by kernel_rfl) (by kernel_rfl) (fun _ _ _ h => h) (Or.inl ⟨by rfl, ?_⟩) S0.out ?_
          rotate_left
          · intro W hW; (go_simp; try with_reducible rfl)
          try simp only [Act.put, List.setIfInBounds_toArray, List.set_cons_zero, List.set_cons_succ]
          refine wpAnyH_take (i := 6) (oi := { dst := some 152, op := Go.Op.load 25 (Go.Operand.tmp 151), type := 25, pos := _, after := #[{ on := 5, ground := Go.Ground.data }, { on := 1, ground := Go.Ground.guard }], guard := some (1, false) }) (v := .agg (nmL m).toArray) rfl (by kernel_rfl) (by kernel_rfl) (by kernel_rfl) (fun _ _ _ h => h) (yieldsIf_load_mid (by rfl) 25 (.tmp 151) rfl g0 1 rfl (nmL m) _ (fun W hW => spc_nm (G0.out.below (step_ BX10.out hW))) Tryz.underlying25 rfl (size_nmL HM.out.1)) S0.out ?_
          try simp only [Act.put, List.setIfInBounds_toArray, List.set_cons_zero, List.set_cons_succ]
          refine wpAnyH_ready (rs := [7]) (by kernel_rfl) (by simp) ?_
          refine AllReadyH.cons (o := { dst := some 153, op := Go.Op.call { callee := Go.Callee.value (Go.Operand.func 12), args := #[Go.Operand.tmp 148, Go.Operand.tmp 150, Go.Operand.tmp 152], argTypes := #[22, 23, 25] }, type := 4, pos := _, after := #[{ on := 2, ground := Go.Ground.data }, { on := 4, ground := Go.Ground.data }, { on := 6, ground := Go.Ground.data }, { on := 1, ground := Go.Ground.chain }, { on := 1, ground := Go.Ground.guard }], guard := some (1, false) }) rfl (fun K hK => ?_) AllReadyH.nil
          go_simp
          refine (present_is Ay ny cy j2 c m true _ (VY_10.out.below S0.out) (by omega) HM.out.1 PJ).mono ?_
          rintro e w1 ⟨rfl, b1⟩
          have S1 := Lib.hid (step_ S0.out b1)
          have W1 := Lib.hid (step_ W0.out b1)
          clear b1
          go_wp2_with fail
          refine hK.out _ _ S1.out (fun _ => ?_)
          clear hK K
          try simp only [Act.put, List.setIfInBounds_toArray, List.set_cons_zero, List.set_cons_succ]
          refine wpAnyH_take (i := 8) (oi := { dst := some 154, op := Go.Op.pick (Go.Operand.tmp 147) (Go.Operand.const (Go.Value.bool true)) (Go.Operand.tmp 153), type := 4, pos := _, after := #[{ on := 1, ground := Go.Ground.data }, { on := 7, ground := Go.Ground.data }], guard := none }) (v := ?_) rfl (by kernel_rfl) (by kernel_rfl) (by kernel_rfl) (fun _ _ _ h => h) (Or.inl ⟨by rfl, ?_⟩) S1.out ?_
          rotate_left
          · intro W hW; (go_simp; try with_reducible rfl)
          try simp only [Act.put, List.setIfInBounds_toArray, List.set_cons_zero, List.set_cons_succ]
          refine wpAnyH_take (i := 9) (oi := { dst := some 155, op := Go.Op.move (Go.Operand.tmp 154), type := 4, pos := _, after := #[{ on := 8, ground := Go.Ground.data }, { on := 7, ground := Go.Ground.chain }], guard := none }) (v := ?_) rfl (by kernel_rfl) (by kernel_rfl) (by kernel_rfl) (fun _ _ _ h => h) (Or.inl ⟨by rfl, ?_⟩) S1.out ?_
          rotate_left
          · intro W hW; (go_simp; try with_reducible rfl)
          try simp only [Act.put, List.setIfInBounds_toArray, List.set_cons_zero, List.set_cons_succ]
          refine wpAnyH_take (i := 10) (oi := { dst := some 156, op := Go.Op.move (Go.Operand.tmp 0), type := 22, pos := _, after := #[{ on := 9, ground := Go.Ground.guard }], guard := some (9, true) }) (v := ?_) rfl (by kernel_rfl) (by kernel_rfl) (by kernel_rfl) (fun _ _ _ h => h) (Or.inl ⟨by rfl, ?_⟩) S1.out ?_
          rotate_left
          · intro W hW; (go_simp; try with_reducible rfl)
          try simp only [Act.put, List.setIfInBounds_toArray, List.set_cons_zero, List.set_cons_succ]
          refine wpAnyH_take (i := 11) (oi := { dst := some 157, op := Go.Op.move (Go.Operand.tmp 16), type := 22, pos := _, after := #[{ on := 9, ground := Go.Ground.guard }], guard := some (9, true) }) (v := ?_) rfl (by kernel_rfl) (by kernel_rfl) (by kernel_rfl) (fun _ _ _ h => h) (Or.inl ⟨by rfl, ?_⟩) S1.out ?_
          rotate_left
          · intro W hW; (go_simp; try with_reducible rfl)
          try simp only [Act.put, List.setIfInBounds_toArray, List.set_cons_zero, List.set_cons_succ]
          refine wpAnyH_take (i := 13) (oi := { dst := some 159, op := Go.Op.fieldAddr 27 (Go.Operand.tmp 5) 0, type := 0, pos := _, after := #[{ on := 9, ground := Go.Ground.guard }], guard := some (9, true) }) (v := ?_) rfl (by kernel_rfl) (by kernel_rfl) (by kernel_rfl) (fun _ _ _ h => h) (Or.inl ⟨by rfl, ?_⟩) S1.out ?_
          rotate_left
          · intro W hW; (go_simp; try with_reducible rfl)
          try simp only [Act.put, List.setIfInBounds_toArray, List.set_cons_zero, List.set_cons_succ]
          refine wpAnyH_take (i := 14) (oi := { dst := some 160, op := Go.Op.load 23 (Go.Operand.tmp 159), type := 23, pos := _, after := #[{ on := 13, ground := Go.Ground.data }, { on := 9, ground := Go.Ground.guard }], guard := some (9, true) }) (v := .int .u16 c) rfl (by kernel_rfl) (by kernel_rfl) (by kernel_rfl) (fun _ _ _ h => h) (Or.inl ⟨by rfl, fun W hW => exec_load_i Tryz.underlying23 (.tmp 159) rfl g0 0 c rfl ((G0.out.below (step_ BX10.out hW)).cell (i := 0) rfl)⟩) S1.out ?_
          try simp only [Act.put, List.setIfInBounds_toArray, List.set_cons_zero, List.set_cons_succ]
          refine wpAnyH_take (i := 15) (oi := { dst := some 161, op := Go.Op.binOp Go.BinOp.add 23 (Go.Operand.tmp 160) (Go.Operand.const (Go.Value.int Go.IntKind.u16 1)) 23, type := 23, pos := _, after := #[{ on := 14, ground := Go.Ground.data }, { on := 9, ground := Go.Ground.guard }], guard := some (9, true) }) (v := ?_) rfl (by kernel_rfl) (by kernel_rfl) (by kernel_rfl) (fun _ _ _ h => h) (Or.inl ⟨by rfl, ?_⟩) S1.out ?_
          rotate_left
          · intro W hW; (go_simp; try with_reducible rfl)
          try simp only [Act.put, List.setIfInBounds_toArray, List.set_cons_zero, List.set_cons_succ]
          refine wpAnyH_take (i := 17) (oi := { dst := some 163, op := Go.Op.move (Go.Operand.tmp 15), type := 34, pos := _, after := #[{ on := 9, ground := Go.Ground.guard }], guard := some (9, true) }) (v := ?_) rfl (by kernel_rfl) (by kernel_rfl) (by kernel_rfl) (fun _ _ _ h => h) (Or.inl ⟨by rfl, ?_⟩) S1.out ?_
          rotate_left
          · intro W hW; (go_simp; try with_reducible rfl)
          try simp only [Act.put, List.setIfInBounds_toArray, List.set_cons_zero, List.set_cons_succ]
          refine wpAnyH_ready (rs := [12]) (by kernel_rfl) (by simp) ?_
          refine AllReadyH.cons (o := { dst := some 158, op := Go.Op.call { callee := Go.Callee.value (Go.Operand.func 23), args := #[Go.Operand.tmp 156, Go.Operand.tmp 157], argTypes := #[22, 22] }, type := 22, pos := _, after := #[{ on := 10, ground := Go.Ground.data }, { on := 11, ground := Go.Ground.data }, { on := 9, ground := Go.Ground.chain }, { on := 9, ground := Go.Ground.guard }], guard := some (9, true) }) rfl (fun K hK => ?_) AllReadyH.nil
          go_simp
          refine ((refJoin_is A Aa n 1 cap ca a (addR k0) _ (H1.out.below W1.out) (VA_10.out.below S1.out) (by omega) (by omega)).mono fun _ _ h => (EJ1.out ▸ h)).mono ?_
          rintro e w2 ⟨⟨Ax2, nx2, cx2, rfl, v2⟩, b2⟩
          have S2 := Lib.hid (step_ S1.out b2)
          have W2 := Lib.hid (step_ W1.out b2)
          have Vx_2 := Lib.hid v2
          clear v2
          clear b2
          go_wp2_with fail
          refine hK.out _ _ S2.out (fun _ => ?_)
          clear hK K
          try simp only [Act.put, List.setIfInBounds_toArray, List.set_cons_zero, List.set_cons_succ]
          refine wpAnyH_ready (rs := [16]) (by kernel_rfl) (by simp) ?_
          refine AllReadyH.cons (o := { dst := some 162, op := Go.Op.call { callee := Go.Callee.value (Go.Operand.func 14), args := #[Go.Operand.tmp 158, Go.Operand.tmp 161], argTypes := #[22, 23] }, type := 34, pos := _, after := #[{ on := 12, ground := Go.Ground.data }, { on := 15, ground := Go.Ground.data }, { on := 12, ground := Go.Ground.chain }, { on := 9, ground := Go.Ground.guard }], guard := some (9, true) }) rfl (fun K hK => ?_) AllReadyH.nil
          go_simp
          refine ((items_is Ax2 nx2 cx2 j1 c1 _ Vx_2.out (by have := Vx_2.out.len; have := LJ1.out; omega)).mono fun _ _ h => (IJ.out ▸ h.row)).mono ?_
          rintro e w3 ⟨⟨Ax3, nx3, cx3, rfl, v3⟩, b3⟩
          have S3 := Lib.hid (step_ S2.out b3)
          have W3 := Lib.hid (step_ W2.out b3)
          have Vi_3 := Lib.hid v3
          clear v3
          clear b3
          go_wp2_with fail
          refine hK.out _ _ S3.out (fun _ => ?_)
          clear hK K
          try simp only [Act.put, List.setIfInBounds_toArray, List.set_cons_zero, List.set_cons_succ]
          refine wpAnyH_ready (rs := [18]) (by kernel_rfl) (by simp) ?_
          refine AllReadyH.cons (o := { dst := some 164, op := Go.Op.call { callee := Go.Callee.value (Go.Operand.func 13), args := #[Go.Operand.tmp 162, Go.Operand.tmp 163], argTypes := #[34, 34] }, type := 4, pos := _, after := #[{ on := 16, ground := Go.Ground.data }, { on := 17, ground := Go.Ground.data }, { on := 16, ground := Go.Ground.chain }, { on := 9, ground := Go.Ground.guard }], guard := some (9, true) }) rfl (fun K hK => ?_) AllReadyH.nil
          go_simp
          refine (namesT_is Ax3 Ao nx3 no cx3 co _ _ true _ Vi_3.out (VO_10.out.below S3.out) (by have := Vi_3.out.len; have := LI.out; omega) (Lib.hid (decide_eq_true rfl))).mono ?_
          rintro e w4 ⟨rfl, b4⟩
          have S4 := Lib.hid (step_ S3.out b4)
          have W4 := Lib.hid (step_ W3.out b4)
          clear b4
          go_wp2_with fail
          refine hK.out _ _ S4.out (fun _ => ?_)
          clear hK K
          try simp only [Act.put, List.setIfInBounds_toArray, List.set_cons_zero, List.set_cons_succ]
          refine wpAnyH_take (i := 19) (oi := { dst := some 165, op := Go.Op.pick (Go.Operand.tmp 155) (Go.Operand.tmp 164) (Go.Operand.const (Go.Value.bool false)), type := 4, pos := _, after := #[{ on := 9, ground := Go.Ground.data }, { on := 18, ground := Go.Ground.data }], guard := none }) (v := ?_) rfl (by kernel_rfl) (by kernel_rfl) (by kernel_rfl) (fun _ _ _ h => h) (Or.inl ⟨by rfl, ?_⟩) S4.out ?_
          rotate_left
          · intro W hW; (go_simp; try with_reducible rfl)
          try simp only [Act.put, List.setIfInBounds_toArray, List.set_cons_zero, List.set_cons_succ]
          refine wpAnyH_take (i := 20) (oi := { dst := some 166, op := Go.Op.move (Go.Operand.tmp 165), type := 4, pos := _, after := #[{ on := 19, ground := Go.Ground.data }, { on := 18, ground := Go.Ground.chain }], guard := none }) (v := ?_) rfl (by kernel_rfl) (by kernel_rfl) (by kernel_rfl) (fun _ _ _ h => h) (Or.inl ⟨by rfl, ?_⟩) S4.out ?_
          rotate_left
          · intro W hW; (go_simp; try with_reducible rfl)
          try simp only [Act.put, List.setIfInBounds_toArray, List.set_cons_zero, List.set_cons_succ]
          refine wpAnyH_ready (rs := [21]) (by kernel_rfl) (by simp) ?_
          refine AllReadyH.cons (o := { dst := some 167, op := Go.Op.call { callee := Go.Callee.value (Go.Operand.func 6), args := #[], argTypes := #[] }, type := 4, pos := _, after := #[{ on := 20, ground := Go.Ground.chain }, { on := 20, ground := Go.Ground.guard }], guard := some (20, true) }) rfl (fun K hK => ?_) AllReadyH.nil
          go_simp
          refine (alive_is _).mono ?_
          rintro e w5 ⟨rfl, b5⟩
          have S5 := Lib.hid (step_ S4.out b5)
          have W5 := Lib.hid (step_ W4.out b5)
          clear b5
          go_wp2_with fail
          refine hK.out _ _ S5.out (fun _ => ?_)
          clear hK K
          try simp only [Act.put, List.setIfInBounds_toArray, List.set_cons_zero, List.set_cons_succ]
          refine wpAnyH_take (i := 22) (oi := { dst := some 168, op := Go.Op.pick (Go.Operand.tmp 166) (Go.Operand.tmp 167) (Go.Operand.const (Go.Value.bool false)), type := 4, pos := _, after := #[{ on := 20, ground := Go.Ground.data }, { on := 21, ground := Go.Ground.data }], guard := none }) (v := ?_) rfl (by kernel_rfl) (by kernel_rfl) (by kernel_rfl) (fun _ _ _ h => h) (Or.inl ⟨by rfl, ?_⟩) S5.out ?_
          rotate_left
          · intro W hW; (go_simp; try with_reducible rfl)
          try simp only [Act.put, List.setIfInBounds_toArray, List.set_cons_zero, List.set_cons_succ]
          refine wpAnyH_take (i := 23) (oi := { dst := some 6, op := Go.Op.assign (Go.Operand.tmp 168), type := 4, pos := _, after := #[{ on := 22, ground := Go.Ground.data }, { on := 21, ground := Go.Ground.chain }, { on := 0, ground := Go.Ground.phase }, { on := 1, ground := Go.Ground.phase }, { on := 2, ground := Go.Ground.phase }, { on := 3, ground := Go.Ground.phase }, { on := 4, ground := Go.Ground.phase }, { on := 5, ground := Go.Ground.phase }, { on := 6, ground := Go.Ground.phase }, { on := 7, ground := Go.Ground.phase }, { on := 8, ground := Go.Ground.phase }, { on := 9, ground := Go.Ground.phase }, { on := 10, ground := Go.Ground.phase }, { on := 11, ground := Go.Ground.phase }, { on := 12, ground := Go.Ground.phase }, { on := 13, ground := Go.Ground.phase }, { on := 14, ground := Go.Ground.phase }, { on := 15, ground := Go.Ground.phase }, { on := 16, ground := Go.Ground.phase }, { on := 17, ground := Go.Ground.phase }, { on := 18, ground := Go.Ground.phase }, { on := 19, ground := Go.Ground.phase }, { on := 20, ground := Go.Ground.phase }, { on := 21, ground := Go.Ground.phase }, { on := 22, ground := Go.Ground.phase }], guard := none }) (v := ?_) rfl (by kernel_rfl) (by kernel_rfl) (by kernel_rfl) (fun _ _ _ h => h) (Or.inl ⟨by rfl, ?_⟩) S5.out ?_
          rotate_left
          · intro W hW; (go_simp; try with_reducible rfl)
          try simp only [Act.put, List.setIfInBounds_toArray, List.set_cons_zero, List.set_cons_succ]
          refine wpAnyH_done (by kernel_rfl) ?_ _
          refine NoPanic.normal ?_
          go_wp2_with fail
          go_ret
          exact ⟨rfl, W5.out⟩
      · have hb : (e2 != 0) = true := by simpa using h0
        have hx : ((e2 == 1) == !r) = true := ER.out h0
        go_wp2_with (first | go_skip | refine wpList_load_nm rfl _ rfl g0 1 m rfl R6.out HM.out.1 ?_)
        refine (refRight_is m r _ HM.out.1 (Lib.hid HM.out.2) HR).mono ?_
        rintro e w7 ⟨rfl, bb⟩
        have WB7 := Lib.hid (step_ WB6.out bb)
        have BX7 := Lib.hid (step_ BX6.out bb)
        have VO_7 := Lib.hid (VO_6.out.below bb)
        have VA_7 := Lib.hid (VA_6.out.below bb)
        clear bb WB6 BX6 VO_6 VA_6 ck6 R6
        have ck7 := (G0.out.below BX7.out).cell (i := 0) rfl
        have R7 := Lib.hid (spc_nm (G0.out.below BX7.out))
        go_wp2_with (first | go_skip | refine wpList_load_nm rfl _ rfl g0 1 m rfl R7.out HM.out.1 ?_)
        refine (alive_is _).mono ?_
        rintro e w8 ⟨rfl, bb⟩
        have WB8 := Lib.hid (step_ WB7.out bb)
        have BX8 := Lib.hid (step_ BX7.out bb)
        have VO_8 := Lib.hid (VO_7.out.below bb)
        have VA_8 := Lib.hid (VA_7.out.below bb)
        clear bb WB7 BX7 VO_7 VA_7 ck7 R7
        have ck8 := (G0.out.below BX8.out).cell (i := 0) rfl
        have R8 := Lib.hid (spc_nm (G0.out.below BX8.out))
        go_wp2_with fail
        go_ret
        exact ⟨rfl, WB8.out⟩
end Go.Proofs.YtdigbipfchgjmaaGreat
