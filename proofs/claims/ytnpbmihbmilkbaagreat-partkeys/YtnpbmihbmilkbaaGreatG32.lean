/- slices.insertionSortOrdered at uint16. Written by wip/tools/srtI_r17.py. -/
import Derived.Test.YtnpbmihbmilkbaaGreatG01
import Derived.Test.YtnpbmihbmilkbaaGreatG31
namespace Go.Proofs.YtnpbmihbmilkbaaGreat
open Go.RowKit
def GivesS (B g n cap a b : Nat) (l : List Int) (w : World) (R : List Int → Prop) (e : Ending) (w' : World) : Prop :=
  e = .returned (.tuple #[]) ∧ Only g w w' ∧ ∃ m, OwnN w' B (.slice (some ⟨g, 0, none⟩) n cap) m ∧ Per a b l m ∧ R m
set_option maxRecDepth 100000 in
set_option maxHeartbeats 4000000 in
theorem insertion_is (B g n cap a b : Nat) (l : List Int) (w : World) (h : OwnN w B (.slice (some ⟨g, 0, none⟩) n cap) l) (hb : b ≤ n) (hn : n ≤ 10000) (hab : a ≤ b) :
    Calls Tryz.prog 74 #[.slice (some ⟨g, 0, none⟩) n cap, .int .i64 (a : Int), .int .i64 (b : Int)] w (GivesS B g n cap a b l w fun m => Sd m a b) := by
  have H := Lib.hid h
  clear h
  go_enter Tryz.func74, Tryz.ntmps74
  go_wp2_with (refine wpList_val rfl _ (exec_addn _ _ rfl (a : Int) 1 ((a + 1 : Nat) : Int) rfl rfl (by omega) (by omega)) ?_)
  go_loopw [6] (fun i wr => ∃ (j : Nat) (m : List Int), i = .int .i64 (j : Int) ∧ (a + 1 ≤ j ∧ (j ≤ b ∨ j = a + 1)) ∧ OwnN wr B (.slice (some ⟨g, 0, none⟩) n cap) m ∧ Per a b l m ∧ Sd m a j ∧ Only g w wr) (fun i _ => b + 1 - (intOf i).toNat)
  case atStart => exact ⟨a + 1, l, rfl, ⟨Nat.le_refl _, .inr rfl⟩, H.out, .refl l, sd_small (Nat.le_refl _), Only.refl g w⟩
  case round =>
    obtain ⟨i, m, rfl, hi, hm, hp, hs, ho⟩ := hrel
    have D := Lib.hid hm
    have P := Lib.hid hp
    have SS := Lib.hid hs
    have OO := Lib.hid ho
    clear hm hp hs ho
    by_cases hlt : i < b
    · have LB := Lib.hid (show i < n ∧ a + 1 ≤ i by omega)
      go_wp2_with fail
      go_loopw [7] (fun j wr => ∃ (k : Nat) (m2 : List Int), j = .int .i64 (k : Int) ∧ (a ≤ k ∧ k ≤ i) ∧ OwnN wr B (.slice (some ⟨g, 0, none⟩) n cap) m2 ∧ Per a b l m2 ∧ InsI m2 a i k ∧ Only g w wr) (fun j _ => (intOf j).toNat)
      case atStart => exact ⟨i, m, rfl, ⟨by omega, Nat.le_refl _⟩, D.out, P.out, ins_start SS.out, OO.out⟩
      case round =>
        obtain ⟨j, m2, rfl, hj, hm2, hp2, hs2, ho2⟩ := hrel
        have D2 := Lib.hid hm2
        have P2 := Lib.hid hp2
        have I2 := Lib.hid hs2
        have O2 := Lib.hid ho2
        have DL := Lib.hid hm2.len
        have S0 := Lib.hid (show Below wr.heap.size wr wr.drew from below_drew (Below.refl _ _))
        have DD := Lib.hid (D2.out.below S0.out)
        have OD := Lib.hid (O2.out.trans (only_drew g wr))
        clear hm2 hp2 hs2 ho2
        by_cases hja : a < j
        · by_cases hc : m2.getD j 0 < m2.getD (j - 1) 0
          · have HC := Lib.hid (decide_eq_true hc)
            have hg1 : decide ((a : Int) < (j : Int)) = true := decide_eq_true (by omega)
            go_wp2_with fail
            refine wp_region_noPanic ?_
            refine wp_region_held_drew (S := fun W => Below wr.heap.size wr W) (by kernel_rfl) S0.out (fun _ => ?_)
            refine tkm 0 rfl S0.out ?_; try simp only [Act.put, stA, stZ, stS]
            refine tkm 1 rfl S0.out ?_; try simp only [Act.put, stA, stZ, stS]
            refine tkv 2 (.bool true) rfl (fun W hW => exec_gt (.tmp 16) (.tmp 17) rfl (j : Int) (a : Int) true rfl rfl (by first | assumption | exact decide_eq_true (by omega) | exact decide_eq_false (by omega))) S0.out ?_; try simp only [Act.put, stA, stZ, stS]
            refine tkm 3 rfl S0.out ?_; try simp only [Act.put, stA, stZ, stS]
            refine tkm 4 rfl S0.out ?_; try simp only [Act.put, stA, stZ, stS]
            refine tkm 5 rfl S0.out ?_; try simp only [Act.put, stA, stZ, stS]
            refine tkv 6 (.pointer (some ⟨g, j, none⟩)) rfl (fun W hW => exec_ixg Tryz.underlying24 (.tmp 20) (.tmp 21) rfl g n cap j (j : Int) rfl rfl (by omega) (by omega)) S0.out ?_; try simp only [Act.put, stA, stZ, stS]
            refine tkv 7 (.int .u64 (m2.getD j 0)) rfl (fun W hW => exec_load_num (.tmp 22) rfl g j (m2.getD j 0) rfl (OwnN.cell (D2.out.below hW) (by have := D2.out.len; omega))) S0.out ?_; try simp only [Act.put, stA, stZ, stS]
            refine tkm 8 rfl S0.out ?_; try simp only [Act.put, stA, stZ, stS]
            refine tkm 9 rfl S0.out ?_; try simp only [Act.put, stA, stZ, stS]
            refine tkv 10 (.int .i64 ((j - 1 : Nat) : Int)) rfl (fun W hW => exec_subn (.tmp 25) (.const (.int .i64 1)) rfl (j : Int) 1 ((j - 1 : Nat) : Int) rfl rfl (by omega) (by omega)) S0.out ?_; try simp only [Act.put, stA, stZ, stS]
            refine tkv 11 (.pointer (some ⟨g, (j - 1), none⟩)) rfl (fun W hW => exec_ixg Tryz.underlying24 (.tmp 24) (.tmp 26) rfl g n cap (j - 1) ((j - 1 : Nat) : Int) rfl rfl (by omega) (by omega)) S0.out ?_; try simp only [Act.put, stA, stZ, stS]
            refine tkv 12 (.int .u64 (m2.getD (j - 1) 0)) rfl (fun W hW => exec_load_num (.tmp 27) rfl g (j - 1) (m2.getD (j - 1) 0) rfl (OwnN.cell (D2.out.below hW) (by have := D2.out.len; omega))) S0.out ?_; try simp only [Act.put, stA, stZ, stS]
            refine rdy [13] ?_
            refine AllReadyH.cons (arR rfl) (fun K hK => ?_) AllReadyH.nil
            go_simp
            refine (less16_is _ _ true _ (Lib.hid (HC.out))).mono ?_
            rintro e wl ⟨rfl, rfl⟩
            go_wp2_with fail
            refine hK.out _ _ S0.out (fun _ => ?_)
            clear hK K
            try simp only [Act.put, stA, stZ, stS]
            refine tkm 14 rfl S0.out ?_; try simp only [Act.put, stA, stZ, stS]
            refine wpAnyH_done (by kernel_rfl) ?_ _
            refine NoPanic.normal ?_
            go_wp2_with fail
            have DDD := Lib.hid (DD.out.below (below_drew (Below.refl _ _)))
            refine wp_region_noPanic ?_
            refine wp_region_held_drew (S := fun _ => True) (by kernel_rfl) trivial (fun _ => ?_)
            refine tkm 0 rfl trivial ?_; try simp only [Act.put, stA, stZ, stS]
            refine tkm 1 rfl trivial ?_; try simp only [Act.put, stA, stZ, stS]
            refine tkm 2 rfl trivial ?_; try simp only [Act.put, stA, stZ, stS]
            refine tkm 3 rfl trivial ?_; try simp only [Act.put, stA, stZ, stS]
            refine tkv 4 (.int .i64 ((j - 1 : Nat) : Int)) rfl (fun W hW => exec_subn (.tmp 36) (.const (.int .i64 1)) rfl (j : Int) 1 ((j - 1 : Nat) : Int) rfl rfl (by omega) (by omega)) trivial ?_; try simp only [Act.put, stA, stZ, stS]
            refine tkm 5 rfl trivial ?_; try simp only [Act.put, stA, stZ, stS]
            refine tkm 6 rfl trivial ?_; try simp only [Act.put, stA, stZ, stS]
            refine tkv 7 (.int .i64 ((j - 1 : Nat) : Int)) rfl (fun W hW => exec_subn (.tmp 39) (.const (.int .i64 1)) rfl (j : Int) 1 ((j - 1 : Nat) : Int) rfl rfl (by omega) (by omega)) trivial ?_; try simp only [Act.put, stA, stZ, stS]
            refine tkv 8 (.pointer (some ⟨g, (j - 1), none⟩)) rfl (fun W hW => exec_ixg Tryz.underlying24 (.tmp 38) (.tmp 40) rfl g n cap (j - 1) ((j - 1 : Nat) : Int) rfl rfl (by omega) (by omega)) trivial ?_; try simp only [Act.put, stA, stZ, stS]
            refine tkm 10 rfl trivial ?_; try simp only [Act.put, stA, stZ, stS]
            refine tkm 11 rfl trivial ?_; try simp only [Act.put, stA, stZ, stS]
            refine tkv 12 (.pointer (some ⟨g, j, none⟩)) rfl (fun W hW => exec_ixg Tryz.underlying24 (.tmp 43) (.tmp 44) rfl g n cap j (j : Int) rfl rfl (by omega) (by omega)) trivial ?_; try simp only [Act.put, stA, stZ, stS]
            refine rdy [9, 13] ?_
            refine ready_val (arR rfl) rfl (.int .u64 (m2.getD (j - 1) 0)) _ (exec_load_num (.tmp 41) rfl g (j - 1) (m2.getD (j - 1) 0) rfl (DDD.out.cell (by have := DDD.out.len; omega))) ⟨trivial, ?_⟩ ?_
            · try simp only [Act.put, stA, stZ, stS]
              refine rdy [13] ?_
              refine ready_val (arR rfl) rfl (.int .u64 (m2.getD j 0)) _ (exec_load_num (.tmp 45) rfl g j (m2.getD j 0) rfl (DDD.out.cell (by have := DDD.out.len; omega))) ⟨trivial, ?_⟩ AllReadyH.nil
              try simp only [Act.put, stA, stZ, stS]
              refine tkv 14 (.pointer (some ⟨g, j, none⟩)) rfl (fun W hW => exec_ixg Tryz.underlying24 (.tmp 33) (.tmp 34) rfl g n cap j (j : Int) rfl rfl (by omega) (by omega)) trivial ?_; try simp only [Act.put, stA, stZ, stS]
              refine rdy [15] ?_
              refine ready_skip (arR rfl) rfl _ (exec_store_num (.tmp 47) (.tmp 42) rfl g j (m2.getD (j - 1) 0) (.int .u64 (m2.getD j 0)) rfl rfl (DDD.out.cell (by have := DDD.out.len; omega)) (DDD.out.fz j)) ⟨trivial, ?_⟩ AllReadyH.nil
              have D1 := Lib.hid (DDD.out.set j (m2.getD (j - 1) 0) (DDD.out.ok.at_ (j - 1)))
              skip
              try simp only [Act.put]
              refine tkv 16 (.pointer (some ⟨g, (j - 1), none⟩)) rfl (fun W hW => exec_ixg Tryz.underlying24 (.tmp 35) (.tmp 37) rfl g n cap (j - 1) ((j - 1 : Nat) : Int) rfl rfl (by omega) (by omega)) trivial ?_; try simp only [Act.put, stA, stZ, stS]
              refine rdy [17] ?_
              refine ready_skip (arR rfl) rfl _ (exec_store_num (.tmp 48) (.tmp 46) rfl g (j - 1) (m2.getD j 0) (.int .u64 ((m2.set j (m2.getD (j - 1) 0)).getD (j - 1) 0)) rfl rfl (D1.out.cell (by have := D1.out.len; omega)) (D1.out.fz (j - 1))) ⟨trivial, ?_⟩ AllReadyH.nil
              have D2 := Lib.hid (D1.out.set (j - 1) (m2.getD j 0) (DDD.out.ok.at_ j))
              try simp only [Act.put]
              refine wpAnyH_done (by kernel_rfl) ?_ _
              refine NoPanic.normal ?_
              go_wp2_with (refine wpList_val rfl _ (exec_subn _ _ rfl (j : Int) 1 ((j - 1 : Nat) : Int) rfl rfl (by omega) (by omega)) ?_)
              go_roundw
              case rel => exact ⟨j - 1, swp m2 j (j - 1), rfl, ⟨by omega, by omega⟩, D2.out, .swap P2.out (by omega) (by omega) (by omega) (by omega) (by have := DL.out; omega), ins_step I2.out hja hj.2 (by have := DL.out; have := LB.out; omega) hc, ((OD.out.trans (only_drew g _)).trans (Only.set g j _ _)).trans (Only.set g (j - 1) _ _)⟩
              case measure => simp [intOf]; omega
            refine ready_val (arR rfl) rfl (.int .u64 (m2.getD j 0)) _ (exec_load_num (.tmp 45) rfl g j (m2.getD j 0) rfl (DDD.out.cell (by have := DDD.out.len; omega))) ⟨trivial, ?_⟩ AllReadyH.nil
            try simp only [Act.put, stA, stZ, stS]
            refine rdy [9] ?_
            refine ready_val (arR rfl) rfl (.int .u64 (m2.getD (j - 1) 0)) _ (exec_load_num (.tmp 41) rfl g (j - 1) (m2.getD (j - 1) 0) rfl (DDD.out.cell (by have := DDD.out.len; omega))) ⟨trivial, ?_⟩ AllReadyH.nil
            try simp only [Act.put, stA, stZ, stS]
            refine tkv 14 (.pointer (some ⟨g, j, none⟩)) rfl (fun W hW => exec_ixg Tryz.underlying24 (.tmp 33) (.tmp 34) rfl g n cap j (j : Int) rfl rfl (by omega) (by omega)) trivial ?_; try simp only [Act.put, stA, stZ, stS]
            refine rdy [15] ?_
            refine ready_skip (arR rfl) rfl _ (exec_store_num (.tmp 47) (.tmp 42) rfl g j (m2.getD (j - 1) 0) (.int .u64 (m2.getD j 0)) rfl rfl (DDD.out.cell (by have := DDD.out.len; omega)) (DDD.out.fz j)) ⟨trivial, ?_⟩ AllReadyH.nil
            have D1 := Lib.hid (DDD.out.set j (m2.getD (j - 1) 0) (DDD.out.ok.at_ (j - 1)))
            skip
            try simp only [Act.put]
            refine tkv 16 (.pointer (some ⟨g, (j - 1), none⟩)) rfl (fun W hW => exec_ixg Tryz.underlying24 (.tmp 35) (.tmp 37) rfl g n cap (j - 1) ((j - 1 : Nat) : Int) rfl rfl (by omega) (by omega)) trivial ?_; try simp only [Act.put, stA, stZ, stS]
            refine rdy [17] ?_
            refine ready_skip (arR rfl) rfl _ (exec_store_num (.tmp 48) (.tmp 46) rfl g (j - 1) (m2.getD j 0) (.int .u64 ((m2.set j (m2.getD (j - 1) 0)).getD (j - 1) 0)) rfl rfl (D1.out.cell (by have := D1.out.len; omega)) (D1.out.fz (j - 1))) ⟨trivial, ?_⟩ AllReadyH.nil
            have D2 := Lib.hid (D1.out.set (j - 1) (m2.getD j 0) (DDD.out.ok.at_ j))
            try simp only [Act.put]
            refine wpAnyH_done (by kernel_rfl) ?_ _
            refine NoPanic.normal ?_
            go_wp2_with (refine wpList_val rfl _ (exec_subn _ _ rfl (j : Int) 1 ((j - 1 : Nat) : Int) rfl rfl (by omega) (by omega)) ?_)
            go_roundw
            case rel => exact ⟨j - 1, swp m2 j (j - 1), rfl, ⟨by omega, by omega⟩, D2.out, .swap P2.out (by omega) (by omega) (by omega) (by omega) (by have := DL.out; omega), ins_step I2.out hja hj.2 (by have := DL.out; have := LB.out; omega) hc, ((OD.out.trans (only_drew g _)).trans (Only.set g j _ _)).trans (Only.set g (j - 1) _ _)⟩
            case measure => simp [intOf]; omega
          · have HC := Lib.hid (decide_eq_false hc)
            have hg1 : decide ((a : Int) < (j : Int)) = true := decide_eq_true (by omega)
            go_wp2_with fail
            refine wp_region_noPanic ?_
            refine wp_region_held_drew (S := fun W => Below wr.heap.size wr W) (by kernel_rfl) S0.out (fun _ => ?_)
            refine tkm 0 rfl S0.out ?_; try simp only [Act.put, stA, stZ, stS]
            refine tkm 1 rfl S0.out ?_; try simp only [Act.put, stA, stZ, stS]
            refine tkv 2 (.bool true) rfl (fun W hW => exec_gt (.tmp 16) (.tmp 17) rfl (j : Int) (a : Int) true rfl rfl (by first | assumption | exact decide_eq_true (by omega) | exact decide_eq_false (by omega))) S0.out ?_; try simp only [Act.put, stA, stZ, stS]
            refine tkm 3 rfl S0.out ?_; try simp only [Act.put, stA, stZ, stS]
            refine tkm 4 rfl S0.out ?_; try simp only [Act.put, stA, stZ, stS]
            refine tkm 5 rfl S0.out ?_; try simp only [Act.put, stA, stZ, stS]
            refine tkv 6 (.pointer (some ⟨g, j, none⟩)) rfl (fun W hW => exec_ixg Tryz.underlying24 (.tmp 20) (.tmp 21) rfl g n cap j (j : Int) rfl rfl (by omega) (by omega)) S0.out ?_; try simp only [Act.put, stA, stZ, stS]
            refine tkv 7 (.int .u64 (m2.getD j 0)) rfl (fun W hW => exec_load_num (.tmp 22) rfl g j (m2.getD j 0) rfl (OwnN.cell (D2.out.below hW) (by have := D2.out.len; omega))) S0.out ?_; try simp only [Act.put, stA, stZ, stS]
            refine tkm 8 rfl S0.out ?_; try simp only [Act.put, stA, stZ, stS]
            refine tkm 9 rfl S0.out ?_; try simp only [Act.put, stA, stZ, stS]
            refine tkv 10 (.int .i64 ((j - 1 : Nat) : Int)) rfl (fun W hW => exec_subn (.tmp 25) (.const (.int .i64 1)) rfl (j : Int) 1 ((j - 1 : Nat) : Int) rfl rfl (by omega) (by omega)) S0.out ?_; try simp only [Act.put, stA, stZ, stS]
            refine tkv 11 (.pointer (some ⟨g, (j - 1), none⟩)) rfl (fun W hW => exec_ixg Tryz.underlying24 (.tmp 24) (.tmp 26) rfl g n cap (j - 1) ((j - 1 : Nat) : Int) rfl rfl (by omega) (by omega)) S0.out ?_; try simp only [Act.put, stA, stZ, stS]
            refine tkv 12 (.int .u64 (m2.getD (j - 1) 0)) rfl (fun W hW => exec_load_num (.tmp 27) rfl g (j - 1) (m2.getD (j - 1) 0) rfl (OwnN.cell (D2.out.below hW) (by have := D2.out.len; omega))) S0.out ?_; try simp only [Act.put, stA, stZ, stS]
            refine rdy [13] ?_
            refine AllReadyH.cons (arR rfl) (fun K hK => ?_) AllReadyH.nil
            go_simp
            refine (less16_is _ _ false _ (Lib.hid (HC.out))).mono ?_
            rintro e wl ⟨rfl, rfl⟩
            go_wp2_with fail
            refine hK.out _ _ S0.out (fun _ => ?_)
            clear hK K
            try simp only [Act.put, stA, stZ, stS]
            refine tkm 14 rfl S0.out ?_; try simp only [Act.put, stA, stZ, stS]
            refine wpAnyH_done (by kernel_rfl) ?_ _
            refine NoPanic.normal ?_
            go_wp2_with (refine wpList_val rfl _ (exec_addn _ _ rfl (i : Int) 1 ((i + 1 : Nat) : Int) rfl rfl (by omega) (by omega)) ?_)
            go_roundw
            case rel => exact ⟨i + 1, m2, rfl, ⟨by omega, .inl (by omega)⟩, DD.out, P2.out, ins_end I2.out hj.1 hj.2 (.inr (by omega)), OD.out⟩
            case measure => simp [intOf]; omega
        · have hg1 : decide ((a : Int) < (j : Int)) = false := decide_eq_false (by omega)
          go_wp2_with fail
          refine wp_region_noPanic ?_
          refine wp_region_held_drew (S := fun W => Below wr.heap.size wr W) (by kernel_rfl) S0.out (fun _ => ?_)
          refine tkm 0 rfl S0.out ?_; try simp only [Act.put, stA, stZ, stS]
          refine tkm 1 rfl S0.out ?_; try simp only [Act.put, stA, stZ, stS]
          refine tkv 2 (.bool false) rfl (fun W hW => exec_gt (.tmp 16) (.tmp 17) rfl (j : Int) (a : Int) false rfl rfl (by first | assumption | exact decide_eq_true (by omega) | exact decide_eq_false (by omega))) S0.out ?_; try simp only [Act.put, stA, stZ, stS]
          refine tkm 3 rfl S0.out ?_; try simp only [Act.put, stA, stZ, stS]
          refine tks 4 rfl S0.out ?_; try simp only [Act.put, stA, stZ, stS]
          refine tks 5 rfl S0.out ?_; try simp only [Act.put, stA, stZ, stS]
          refine tks 6 rfl S0.out ?_; try simp only [Act.put, stA, stZ, stS]
          refine tks 7 rfl S0.out ?_; try simp only [Act.put, stA, stZ, stS]
          refine tks 8 rfl S0.out ?_; try simp only [Act.put, stA, stZ, stS]
          refine tks 9 rfl S0.out ?_; try simp only [Act.put, stA, stZ, stS]
          refine tks 10 rfl S0.out ?_; try simp only [Act.put, stA, stZ, stS]
          refine tks 11 rfl S0.out ?_; try simp only [Act.put, stA, stZ, stS]
          refine tks 12 rfl S0.out ?_; try simp only [Act.put, stA, stZ, stS]
          refine tks 13 rfl S0.out ?_; try simp only [Act.put, stA, stZ, stS]
          refine tkm 14 rfl S0.out ?_; try simp only [Act.put, stA, stZ, stS]
          refine wpAnyH_done (by kernel_rfl) ?_ _
          refine NoPanic.normal ?_
          go_wp2_with (refine wpList_val rfl _ (exec_addn _ _ rfl (i : Int) 1 ((i + 1 : Nat) : Int) rfl rfl (by omega) (by omega)) ?_)
          go_roundw
          case rel => exact ⟨i + 1, m2, rfl, ⟨by omega, .inl (by omega)⟩, DD.out, P2.out, ins_end I2.out hj.1 hj.2 (.inl (by omega)), OD.out⟩
          case measure => simp [intOf]; omega
    · go_wp2_with fail
      refine bodyPost_ret (results_none rfl _ _ _) rfl ?_
      exact ⟨rfl, OO.out, m, D.out, P.out, SS.out.mono (Nat.le_refl _) (by omega)⟩
end Go.Proofs.YtnpbmihbmilkbaaGreat
