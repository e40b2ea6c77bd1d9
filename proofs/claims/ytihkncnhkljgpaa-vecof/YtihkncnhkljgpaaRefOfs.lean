/- The contract of Of of the reference. -/
import Derived.Test.YtihkncnhkljgpaaOfs
namespace Go.Proofs.Ytihkncnhkljgpaa
open Go.RowKit

theorem refofs_keep {w w' : World} {A : Option Addr} {n cap g : Nat} {l : List Am} {v : List Int} (h : RowV w A n cap l) (ho : Only g w w') (hb : Blk w g 23 (vc v)) : RowV w' A n cap l :=
  ⟨h.ok, h.len, h.le, h.most, fun h0 => by
    obtain ⟨G, off, ha, hG, hr⟩ := h.at_ h0
    have hne : G ≠ g := by
      rintro rfl
      have h1 := hr 0 (by rw [h.len]; exact h0) 0 _ (by rw [Am.cells, List.getElem?_append_left (by rw [kcells_len (h.ok _ (List.getElem_mem _)).k.ml]; omega)]; exact kc0 _)
      rw [cell_of_row _ G _ _ 23 (0, 0) hb] at h1
      obtain ⟨hi, e⟩ := Array.getElem?_eq_some_iff.1 h1
      simp [vc] at e
    refine ⟨G, off, ha, Nat.lt_of_lt_of_le hG ho.size, fun i hi j v hv => ?_⟩
    have h1 := hr i hi j v hv
    unfold World.cell? at *
    rw [show w'.heap[(⟨G, off + i * 21 + j, none⟩ : Addr).block]? = w.heap[(⟨G, off + i * 21 + j, none⟩ : Addr).block]? from ho.block G hG hne]
    exact h1⟩
theorem only_drewN {g : Nat} {a w : World} (h : Only g a w) : ∀ n, Only g a (w.drewN n)
  | 0 => h
  | n + 1 => (only_drewN h n).drew
set_option maxRecDepth 100000 in
set_option maxHeartbeats 2000000 in
theorem refOfs_is (A : Option Addr) (n cap : Nat) (a : List Am) (w : World) (h : RowV w A n cap a) (hn : n ≤ 600) : Calls Try.prog 18 #[.slice A n cap] w fun e w' => e = .returned (.agg (vc (vof (norm a))).toArray) ∧ Below w.heap.size w w' := by
  have hz := zero23v
  have hk0 := zero27
  have Q1 := Lib.hid (blk_alloc w 23 (vc vz))
  have B0 := Lib.hid (new_below w (.cells (vc vz).toArray 23))
  have H := Lib.hid h
  clear h
  go_enter Try.func18, Try.ntmps18
  go_wp2_with fail
  refine (refNorm_is A n cap a _ (H.out.below B0.out) (by omega)).mono ?_
  rintro e w1 ⟨⟨D, m, c, rfl, r1⟩, b1⟩
  have R1 := Lib.hid (r1.below (new_below w1 (.cells (vc vz).toArray 23)))
  have W1 := Lib.hid ((Q1.out.below b1).alloc (.cells (vc vz).toArray 23))
  have W2 := Lib.hid (blk_alloc w1 23 (vc vz))
  have B1 := Lib.hid (step_ (step_ B0.out b1) (new_below w1 (.cells (vc vz).toArray 23)))
  have LT := Lib.hid (show w.heap.size < w1.heap.size from (Q1.out.below b1).lt)
  have hm : m ≤ 1000 := by have := norm_len a; rw [r1.len, H.out.len] at this; omega
  have ST := Lib.hid (norm_st H.out.ok)
  clear r1 b1 Q1 B0 H
  obtain ⟨s, hs⟩ : ∃ s, norm a = s := ⟨_, rfl⟩
  rw [hs] at R1 ST
  have HS := Lib.hid hs
  clear hs
  go_wp2_with fail
  clear hz
  go_loopw [4] (fun i wr => ∃ j : Nat, j ≤ m ∧ i = .int .i64 j ∧ Blk wr w1.heap.size 23 (vc (vof (s.take j))) ∧ Only w1.heap.size (w1.alloc (.cells (vc vz).toArray 23)) wr) (fun i _ => m - (intOf i).toNat)
  case atStart => exact ⟨0, Nat.zero_le _, rfl, W2.out, Only.refl _ _⟩
  case round =>
    obtain ⟨j, hj, rfl, hv, ho⟩ := hrel
    have V := Lib.hid hv
    have OO := Lib.hid ho
    have RR := Lib.hid (refofs_keep R1.out ho W2.out)
    clear hv ho
    by_cases hlt : j < m
    · obtain ⟨G, p, hE⟩ := RR.out.elem j hlt
      have E := Lib.hid hE
      have T := Lib.hid (take_getD (l := s) (j := j) (by have := RR.out.len; omega))
      have XI := Lib.hid (show s.getD j azero ∈ s by have := RR.out.len; rw [List.getD_eq_getElem?_getD, List.getElem?_eq_getElem (by omega)]; exact List.getElem_mem _)
      obtain ⟨x, hx⟩ : ∃ x, s.getD j azero = x := ⟨_, rfl⟩
      rw [hx] at E T XI
      clear hE hx
      have XO := Lib.hid E.out.ok
      have SN := Lib.hid (show vof (s.take (j + 1)) = vup (vof (s.take j)) x.k by rw [T.out, vof_snoc])
      have Z1 := Lib.hid (blk_alloc wr 61 kzero.cells)
      have GS := Lib.hid (show w1.heap.size < wr.heap.size from V.out.lt)
      go_wp2_with (first
        | (refine wpList_index rfl _ _ rfl D m c G p j x _ rfl rfl (by first | rfl | omega) E.out ?_)
        | (refine wpList_load_ky rfl _ rfl G p x.k rfl (range_ak E.out.rg) XO.out.k.ml ?_)
        | (refine wpList_store_ky rfl _ _ rfl wr.heap.size kzero x.k rfl rfl Z1.out kzero_ok.ml XO.out.k.ml ?_; intro w2 N2 O2))
      have QQ := Lib.hid (box_below O2.out)
      have V2 := Lib.hid (V.out.below QQ.out)
      have OO2 := Lib.hid (OO.out.trans (Only.of_below QQ.out))
      have c0 := N2.out.cell (kc0 x.k)
      have N2' := Lib.hid N2.out
      clear N2 O2 V OO RR E Z1 QQ T
      by_cases hs1 : x.k.s = 1
      · obtain ⟨hr, hr2⟩ := tag_rep ST.out XI.out hs1
        obtain ⟨r, hrr⟩ : ∃ r, x.k.r.toNat = r := ⟨_, rfl⟩
        rw [hrr] at hr hr2
        have hbs : (x.k.s == 1) = true := by rw [hs1]; rfl
        have c10 := N2'.out.cell (kc10 (k := x.k) XO.out.k.ml)
        have c11 := N2'.out.cell (kc11 (k := x.k) XO.out.k.ml)
        rw [hr2] at c10
        have hri : (r : Int) < 16 := by omega
        obtain ⟨y, hy⟩ : ∃ y, (vof (s.take j))[r]? = some y := ⟨_, List.getElem?_eq_getElem (by rw [vof_len]; exact hr)⟩
        have cv := V2.out.cell (vc_at hy)
        have fv := V2.out.frozen r
        by_cases hlt2 : y < x.k.q
        · have RF := Lib.hid (vup_gt hs1 hr2 hy hlt2)
          have hlt3 : decide (y < x.k.q) = true := by simp [hlt2]
          clear hs1 hr2 hrr hy
          go_wp2_with fail
          go_quiet (fail)
          go_wp2_with fail
          go_roundw
          case rel => exact ⟨j + 1, by omega, by go_num, by rw [SN.out, ← RF.out]; exact bumpL V2.out, (only_drewN OO2.out _).trans (Only.set _ _ _ _)⟩
          case measure => simp [intOf]; omega
        · have RF := Lib.hid (vup_le hs1 hr2 hy hlt2).1
          have hlt3 : decide (y < x.k.q) = false := by simp [hlt2]
          clear hs1 hr2 hrr hy
          go_wp2_with fail
          go_quiet (fail)
          go_wp2_with fail
          go_roundw
          case rel => exact ⟨j + 1, by omega, by go_num, by rw [SN.out, ← RF.out]; exact V2.out, only_drewN OO2.out _⟩
          case measure => simp [intOf]; omega
      · have hbs : (x.k.s == 1) = false := by simp [hs1]
        have RF := Lib.hid (vup_no (v := vof (s.take j)) hs1)
        clear hs1
        go_wp2_with fail
        go_quiet (fail)
        go_wp2_with fail
        go_roundw
        case rel => exact ⟨j + 1, by omega, by go_num, by rw [SN.out, RF.out]; exact V2.out, only_drewN OO2.out _⟩
        case measure => simp [intOf]; omega
    · obtain rfl : m = j := by omega
      have TK := Lib.hid (show s.take m = s from List.take_of_length_le (by have := RR.out.len; omega))
      rw [TK.out] at V
      have VL := Lib.hid (vof_len s)
      have R0 := Lib.hid (W1.out.only OO.out (by have := LT.out; omega))
      go_wp2_with (first
        | refine wpList_load_v t23 rfl _ rfl w1.heap.size 0 (vof s) rfl V.out.range VL.out ?_
        | (refine wpList_store_v t23 rfl _ _ rfl w.heap.size vz (vof s) rfl rfl R0.out rfl VL.out ?_; intro w5 hw5 ho5))
      refine bodyPost_ret (results_v t23 rfl _ _ w.heap.size (vof s) rfl hw5.out VL.out) rfl ?_
      have B5 := B1.out.trans (OO.out.below (Nat.le_of_lt LT.out) B1.out.size)
      exact ⟨by rw [HS.out], B5.trans (ho5.out.below (Nat.le_refl _) B5.size)⟩
end Go.Proofs.Ytihkncnhkljgpaa
