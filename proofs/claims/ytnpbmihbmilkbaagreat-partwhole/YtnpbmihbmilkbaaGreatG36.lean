/- slices.siftDownOrdered and slices.heapSortOrdered at uint16. Written by wip/tools/srtH_r17.py. -/
import Derived.Test.YtnpbmihbmilkbaaGreatG01
import Derived.Test.YtnpbmihbmilkbaaGreatG32
namespace Go.Proofs.YtnpbmihbmilkbaaGreat
open Go.RowKit
set_option maxRecDepth 100000 in
set_option maxHeartbeats 8000000 in
theorem sift_is (B g n cap f lo hi : Nat) (l : List Int) (w : World) (h : OwnN w B (.slice (some ⟨g, 0, none⟩) n cap) l) (hf : f + hi ≤ n) (hn : n ≤ 10000) (hlo : lo ≤ hi) (hp : HpF l f (lo + 1) hi) :
    Calls Tryz.prog 106 #[(.slice (some ⟨g, 0, none⟩) n cap), .int .i64 (lo : Int), .int .i64 (hi : Int), .int .i64 (f : Int)] w (GivesS B g n cap f (f + hi) l w fun m => HpF m f lo hi) := by
  have H := Lib.hid h
  have HP := Lib.hid hp
  clear h hp
  go_enter Tryz.func106, Tryz.ntmps106
  go_wp2_with fail
  go_loopw [8] (fun r wr => ∃ (k : Nat) (m : List Int), r = .int .i64 (k : Int) ∧ (lo ≤ k ∧ k ≤ hi) ∧ OwnN wr B (.slice (some ⟨g, 0, none⟩) n cap) m ∧ Per f (f + hi) l m ∧ SiftI m f lo hi k ∧ Only g w wr) (fun r _ => hi - (intOf r).toNat)
  case atStart => exact ⟨lo, l, rfl, ⟨Nat.le_refl _, hlo⟩, H.out, .refl l, sift_start HP.out, Only.refl g w⟩
  case round =>
    obtain ⟨r, m, rfl, hr, hm, hpp, hs, ho⟩ := hrel
    have hr1 := hr.1
    have D := Lib.hid hm
    have P := Lib.hid hpp
    have SI := Lib.hid hs
    have OO := Lib.hid ho
    have DL := Lib.hid hm.len
    clear hm hpp hs ho
    by_cases hend : hi ≤ 2 * r + 1
    · have hg0 : decide ((hi : Int) ≤ ((2 * r + 1 : Nat) : Int)) = true := decide_eq_true (by omega)
      go_wp2_with (first
        | (refine wpList_val rfl _ (exec_muln _ _ rfl 2 (r : Int) ((2 * r : Nat) : Int) rfl rfl (by omega) (by omega)) ?_)
        | (refine wpList_val rfl _ (exec_addn _ _ rfl ((2 * r : Nat) : Int) 1 ((2 * r + 1 : Nat) : Int) rfl rfl (by omega) (by omega)) ?_)
        | (refine wpList_val rfl _ (exec_ge _ _ rfl ((2 * r + 1 : Nat) : Int) (hi : Int) true rfl rfl hg0) ?_))
      refine bodyPost_ret (results_none rfl _ _ _) rfl ?_
      exact ⟨rfl, OO.out, m, D.out, P.out, sift_end SI.out (fun d hd hdh => by omega)⟩
    · have hg0 : decide ((hi : Int) ≤ ((2 * r + 1 : Nat) : Int)) = false := decide_eq_false (by omega)
      obtain ⟨c, hc⟩ : ∃ z, z = 2 * r + 1 := ⟨_, rfl⟩
      have hcc : c = 2 * r + 1 ∨ c = 2 * r + 2 := .inl hc
      have hch : c < hi := by omega
      have S0 := Lib.hid (show Below wr.heap.size wr wr.drew from below_drew (Below.refl _ _))
      have D1 := Lib.hid D.out
      have D1b := Lib.hid (D.out.below S0.out)
      have HCe := Lib.hid hc
      rw [← HCe.out] at hg0
      clear hc
      go_wp2_with (first
        | (refine wpList_val rfl _ (exec_muln _ _ rfl 2 (r : Int) ((2 * r : Nat) : Int) rfl rfl (by omega) (by omega)) ?_)
        | (refine wpList_val rfl _ (exec_addn _ _ rfl ((2 * r : Nat) : Int) 1 (c : Int) rfl rfl (by have := HCe.out; omega) (by omega)) ?_)
        | (refine wpList_val rfl _ (exec_ge _ _ rfl (c : Int) (hi : Int) false rfl rfl hg0) ?_))
      by_cases hb1 : c + 1 < hi
      · have hg1 : decide (((c + 1 : Nat) : Int) < (hi : Int)) = true := decide_eq_true (by omega)
        by_cases hle : m.getD (f + c) 0 < m.getD (f + c + 1) 0
        · have HC := Lib.hid (decide_eq_true hle)
          refine wp_region_noPanic ?_
          refine wp_region_held_drew (S := fun W => Below wr.heap.size wr W) (by kernel_rfl) S0.out (fun _ => ?_)
          refine tkm 0 rfl S0.out ?_; try simp only [Act.put, stA, stZ, stS]
          refine tkv 1 (.int .i64 ((c + 1 : Nat) : Int)) rfl (fun W hW => exec_addn (.tmp 17) (.const (.int .i64 1)) rfl (c : Int) 1 ((c + 1 : Nat) : Int) rfl rfl (by omega) (by omega)) S0.out ?_; try simp only [Act.put, stA, stZ, stS]
          refine tkm 2 rfl S0.out ?_; try simp only [Act.put, stA, stZ, stS]
          refine tkv 3 (.bool true) rfl (fun W hW => exec_lt (.tmp 18) (.tmp 19) rfl ((c + 1 : Nat) : Int) (hi : Int) true rfl rfl (by first | assumption | exact decide_eq_true (by omega) | exact decide_eq_false (by omega))) S0.out ?_; try simp only [Act.put, stA, stZ, stS]
          refine tkm 4 rfl S0.out ?_; try simp only [Act.put, stA, stZ, stS]
          refine tkm 5 rfl S0.out ?_; try simp only [Act.put, stA, stZ, stS]
          refine tkm 6 rfl S0.out ?_; try simp only [Act.put, stA, stZ, stS]
          refine tkm 7 rfl S0.out ?_; try simp only [Act.put, stA, stZ, stS]
          refine tkv 8 (.int .i64 ((f + c : Nat) : Int)) rfl (fun W hW => exec_addn (.tmp 23) (.tmp 24) rfl (f : Int) (c : Int) ((f + c : Nat) : Int) rfl rfl (by omega) (by omega)) S0.out ?_; try simp only [Act.put, stA, stZ, stS]
          refine tkv 9 (.pointer (some ⟨g, (f + c), none⟩)) rfl (fun W hW => exec_ixg Tryz.underlying24 (.tmp 22) (.tmp 25) rfl g n cap (f + c) ((f + c : Nat) : Int) rfl rfl (by omega) (by omega)) S0.out ?_; try simp only [Act.put, stA, stZ, stS]
          refine tkv 10 (.int .u64 (m.getD (f + c) 0)) rfl (fun W hW => exec_load_num (.tmp 26) rfl g (f + c) (m.getD (f + c) 0) rfl (OwnN.cell (D1.out.below hW) (by have := D1.out.len; omega))) S0.out ?_; try simp only [Act.put, stA, stZ, stS]
          refine tkm 11 rfl S0.out ?_; try simp only [Act.put, stA, stZ, stS]
          refine tkm 12 rfl S0.out ?_; try simp only [Act.put, stA, stZ, stS]
          refine tkm 13 rfl S0.out ?_; try simp only [Act.put, stA, stZ, stS]
          refine tkv 14 (.int .i64 ((f + c : Nat) : Int)) rfl (fun W hW => exec_addn (.tmp 29) (.tmp 30) rfl (f : Int) (c : Int) ((f + c : Nat) : Int) rfl rfl (by omega) (by omega)) S0.out ?_; try simp only [Act.put, stA, stZ, stS]
          refine tkv 15 (.int .i64 ((f + c + 1 : Nat) : Int)) rfl (fun W hW => exec_addn (.tmp 31) (.const (.int .i64 1)) rfl ((f + c : Nat) : Int) 1 ((f + c + 1 : Nat) : Int) rfl rfl (by omega) (by omega)) S0.out ?_; try simp only [Act.put, stA, stZ, stS]
          refine tkv 16 (.pointer (some ⟨g, (f + c + 1), none⟩)) rfl (fun W hW => exec_ixg Tryz.underlying24 (.tmp 28) (.tmp 32) rfl g n cap (f + c + 1) ((f + c + 1 : Nat) : Int) rfl rfl (by omega) (by omega)) S0.out ?_; try simp only [Act.put, stA, stZ, stS]
          refine tkv 17 (.int .u64 (m.getD (f + c + 1) 0)) rfl (fun W hW => exec_load_num (.tmp 33) rfl g (f + c + 1) (m.getD (f + c + 1) 0) rfl (OwnN.cell (D1.out.below hW) (by have := D1.out.len; omega))) S0.out ?_; try simp only [Act.put, stA, stZ, stS]
          refine rdy [18] ?_
          refine AllReadyH.cons (arR rfl) (fun K hK => ?_) AllReadyH.nil
          go_simp
          refine (less16_is _ _ true _ (Lib.hid (HC.out))).mono ?_
          rintro e wl ⟨rfl, rfl⟩
          go_wp2_with fail
          refine hK.out _ _ S0.out (fun _ => ?_)
          clear hK K
          try simp only [Act.put, stA, stZ, stS]
          refine tkm 19 rfl S0.out ?_; try simp only [Act.put, stA, stZ, stS]
          refine wpAnyH_done (by kernel_rfl) ?_ _
          refine NoPanic.normal ?_
          have hbest0 : ∀ d, d = 2 * r + 1 ∨ d = 2 * r + 2 → d < hi → m.getD (f + d) 0 ≤ m.getD (f + (c + 1)) 0 := fun d hd hdh => by
            rcases hd with hd | hd
            · rw [hd, ← HCe.out, ← Nat.add_assoc]; omega
            · rw [show d = c + 1 by have := HCe.out; omega]; exact Int.le_refl _
          obtain ⟨c2, hc2⟩ : ∃ z, z = c + 1 := ⟨_, rfl⟩
          rw [← hc2] at hbest0
          have HC2 := Lib.hid hc2
          have hcc2 : c2 = 2 * r + 1 ∨ c2 = 2 * r + 2 := by have := HCe.out; omega
          have hch2 : c2 < hi := by omega
          clear HC hle hg1 hb1 hcc hch hg0 hc2
          go_wp2_with (refine wpList_val rfl _ (exec_addn _ _ rfl (c : Int) 1 (c2 : Int) rfl rfl (by have := HC2.out; omega) (by omega)) ?_)
          obtain ⟨wd, ewd⟩ : ∃ z, z = wr.drew := ⟨_, rfl⟩
          have DW := Lib.hid (show OwnN wd B (.slice (some ⟨g, 0, none⟩) n cap) m by rw [ewd]; exact D1b.out)
          have OW := Lib.hid (show Only g w wd by rw [ewd]; exact OO.out.trans (only_drew g wr))
          rw [← ewd]
          clear ewd
          clear S0
          have S0 := Lib.hid (show Below wd.heap.size wd wd.drew from below_drew (Below.refl _ _))
          have D3 := Lib.hid (DW.out.below S0.out)
          have OD := Lib.hid (OW.out.trans (only_drew g wd))
          by_cases hlt : m.getD (f + r) 0 < m.getD (f + c2) 0
          · have HC5 := Lib.hid (decide_eq_true hlt)
            refine wp_region_noPanic ?_
            refine wp_region_held_drew (S := fun W => Below wd.heap.size wd W) (by kernel_rfl) S0.out (fun _ => ?_)
            refine tkm 0 rfl S0.out ?_; try simp only [Act.put, stA, stZ, stS]
            refine tkm 1 rfl S0.out ?_; try simp only [Act.put, stA, stZ, stS]
            refine tkm 2 rfl S0.out ?_; try simp only [Act.put, stA, stZ, stS]
            refine tkv 3 (.int .i64 ((f + r : Nat) : Int)) rfl (fun W hW => exec_addn (.tmp 40) (.tmp 41) rfl (f : Int) (r : Int) ((f + r : Nat) : Int) rfl rfl (by omega) (by omega)) S0.out ?_; try simp only [Act.put, stA, stZ, stS]
            refine tkv 4 (.pointer (some ⟨g, (f + r), none⟩)) rfl (fun W hW => exec_ixg Tryz.underlying24 (.tmp 39) (.tmp 42) rfl g n cap (f + r) ((f + r : Nat) : Int) rfl rfl (by omega) (by omega)) S0.out ?_; try simp only [Act.put, stA, stZ, stS]
            refine tkv 5 (.int .u64 (m.getD (f + r) 0)) rfl (fun W hW => exec_load_num (.tmp 43) rfl g (f + r) (m.getD (f + r) 0) rfl (OwnN.cell (DW.out.below hW) (by have := DW.out.len; omega))) S0.out ?_; try simp only [Act.put, stA, stZ, stS]
            refine tkm 6 rfl S0.out ?_; try simp only [Act.put, stA, stZ, stS]
            refine tkm 7 rfl S0.out ?_; try simp only [Act.put, stA, stZ, stS]
            refine tkm 8 rfl S0.out ?_; try simp only [Act.put, stA, stZ, stS]
            refine tkv 9 (.int .i64 ((f + c2 : Nat) : Int)) rfl (fun W hW => exec_addn (.tmp 46) (.tmp 47) rfl (f : Int) (c2 : Int) ((f + c2 : Nat) : Int) rfl rfl (by omega) (by omega)) S0.out ?_; try simp only [Act.put, stA, stZ, stS]
            refine tkv 10 (.pointer (some ⟨g, (f + c2), none⟩)) rfl (fun W hW => exec_ixg Tryz.underlying24 (.tmp 45) (.tmp 48) rfl g n cap (f + c2) ((f + c2 : Nat) : Int) rfl rfl (by omega) (by omega)) S0.out ?_; try simp only [Act.put, stA, stZ, stS]
            refine tkv 11 (.int .u64 (m.getD (f + c2) 0)) rfl (fun W hW => exec_load_num (.tmp 49) rfl g (f + c2) (m.getD (f + c2) 0) rfl (OwnN.cell (DW.out.below hW) (by have := DW.out.len; omega))) S0.out ?_; try simp only [Act.put, stA, stZ, stS]
            refine rdy [12] ?_
            refine AllReadyH.cons (arR rfl) (fun K hK => ?_) AllReadyH.nil
            go_simp
            refine (less16_is _ _ true _ (Lib.hid (HC5.out))).mono ?_
            rintro e wl ⟨rfl, rfl⟩
            go_wp2_with fail
            refine hK.out _ _ S0.out (fun _ => ?_)
            clear hK K
            try simp only [Act.put, stA, stZ, stS]
            refine tkm 13 rfl S0.out ?_; try simp only [Act.put, stA, stZ, stS]
            refine wpAnyH_done (by kernel_rfl) ?_ _
            refine NoPanic.normal ?_
            go_wp2_with fail
            have D4 := Lib.hid (D3.out.below (below_drew (Below.refl _ _)))
            refine wp_region_noPanic ?_
            refine wp_region_held_drew (S := fun _ => True) (by kernel_rfl) trivial (fun _ => ?_)
            refine tkm 0 rfl trivial ?_; try simp only [Act.put, stA, stZ, stS]
            refine tkm 1 rfl trivial ?_; try simp only [Act.put, stA, stZ, stS]
            refine tkm 2 rfl trivial ?_; try simp only [Act.put, stA, stZ, stS]
            refine tkv 3 (.int .i64 ((f + r : Nat) : Int)) rfl (fun W hW => exec_addn (.tmp 54) (.tmp 55) rfl (f : Int) (r : Int) ((f + r : Nat) : Int) rfl rfl (by omega) (by omega)) trivial ?_; try simp only [Act.put, stA, stZ, stS]
            refine tkm 4 rfl trivial ?_; try simp only [Act.put, stA, stZ, stS]
            refine tkm 5 rfl trivial ?_; try simp only [Act.put, stA, stZ, stS]
            refine tkm 6 rfl trivial ?_; try simp only [Act.put, stA, stZ, stS]
            refine tkv 7 (.int .i64 ((f + c2 : Nat) : Int)) rfl (fun W hW => exec_addn (.tmp 58) (.tmp 59) rfl (f : Int) (c2 : Int) ((f + c2 : Nat) : Int) rfl rfl (by omega) (by omega)) trivial ?_; try simp only [Act.put, stA, stZ, stS]
            refine tkm 8 rfl trivial ?_; try simp only [Act.put, stA, stZ, stS]
            refine tkm 9 rfl trivial ?_; try simp only [Act.put, stA, stZ, stS]
            refine tkm 10 rfl trivial ?_; try simp only [Act.put, stA, stZ, stS]
            refine tkv 11 (.int .i64 ((f + c2 : Nat) : Int)) rfl (fun W hW => exec_addn (.tmp 62) (.tmp 63) rfl (f : Int) (c2 : Int) ((f + c2 : Nat) : Int) rfl rfl (by omega) (by omega)) trivial ?_; try simp only [Act.put, stA, stZ, stS]
            refine tkv 12 (.pointer (some ⟨g, (f + c2), none⟩)) rfl (fun W hW => exec_ixg Tryz.underlying24 (.tmp 61) (.tmp 64) rfl g n cap (f + c2) ((f + c2 : Nat) : Int) rfl rfl (by omega) (by omega)) trivial ?_; try simp only [Act.put, stA, stZ, stS]
            refine tkm 14 rfl trivial ?_; try simp only [Act.put, stA, stZ, stS]
            refine tkm 15 rfl trivial ?_; try simp only [Act.put, stA, stZ, stS]
            refine tkm 16 rfl trivial ?_; try simp only [Act.put, stA, stZ, stS]
            refine tkv 17 (.int .i64 ((f + r : Nat) : Int)) rfl (fun W hW => exec_addn (.tmp 68) (.tmp 69) rfl (f : Int) (r : Int) ((f + r : Nat) : Int) rfl rfl (by omega) (by omega)) trivial ?_; try simp only [Act.put, stA, stZ, stS]
            refine tkv 18 (.pointer (some ⟨g, (f + r), none⟩)) rfl (fun W hW => exec_ixg Tryz.underlying24 (.tmp 67) (.tmp 70) rfl g n cap (f + r) ((f + r : Nat) : Int) rfl rfl (by omega) (by omega)) trivial ?_; try simp only [Act.put, stA, stZ, stS]
            refine rdy [13, 19] ?_
            refine ready_val (arR rfl) rfl (.int .u64 (m.getD (f + c2) 0)) _ (exec_load_num (.tmp 65) rfl g (f + c2) (m.getD (f + c2) 0) rfl (D4.out.cell (by have := D4.out.len; omega))) ⟨trivial, ?_⟩ ?_
            · try simp only [Act.put, stA, stZ, stS]
              refine rdy [19] ?_
              refine ready_val (arR rfl) rfl (.int .u64 (m.getD (f + r) 0)) _ (exec_load_num (.tmp 71) rfl g (f + r) (m.getD (f + r) 0) rfl (D4.out.cell (by have := D4.out.len; omega))) ⟨trivial, ?_⟩ AllReadyH.nil
              try simp only [Act.put, stA, stZ, stS]
              refine tkv 20 (.pointer (some ⟨g, (f + r), none⟩)) rfl (fun W hW => exec_ixg Tryz.underlying24 (.tmp 53) (.tmp 56) rfl g n cap (f + r) ((f + r : Nat) : Int) rfl rfl (by omega) (by omega)) trivial ?_; try simp only [Act.put, stA, stZ, stS]
              refine rdy [21] ?_
              refine ready_skip (arR rfl) rfl _ (exec_store_num (.tmp 73) (.tmp 66) rfl g (f + r) (m.getD (f + c2) 0) (.int .u64 (m.getD (f + r) 0)) rfl rfl (D4.out.cell (by have := D4.out.len; omega)) (D4.out.fz (f + r))) ⟨trivial, ?_⟩ AllReadyH.nil
              have D1 := Lib.hid (D4.out.set (f + r) (m.getD (f + c2) 0) (D4.out.ok.at_ (f + c2)))
              skip
              try simp only [Act.put]
              refine tkv 22 (.pointer (some ⟨g, (f + c2), none⟩)) rfl (fun W hW => exec_ixg Tryz.underlying24 (.tmp 57) (.tmp 60) rfl g n cap (f + c2) ((f + c2 : Nat) : Int) rfl rfl (by omega) (by omega)) trivial ?_; try simp only [Act.put, stA, stZ, stS]
              refine rdy [23] ?_
              refine ready_skip (arR rfl) rfl _ (exec_store_num (.tmp 74) (.tmp 72) rfl g (f + c2) (m.getD (f + r) 0) (.int .u64 ((m.set (f + r) (m.getD (f + c2) 0)).getD (f + c2) 0)) rfl rfl (D1.out.cell (by have := D1.out.len; omega)) (D1.out.fz (f + c2))) ⟨trivial, ?_⟩ AllReadyH.nil
              have D2 := Lib.hid (D1.out.set (f + c2) (m.getD (f + r) 0) (D4.out.ok.at_ (f + r)))
              try simp only [Act.put]
              refine wpAnyH_done (by kernel_rfl) ?_ _
              refine NoPanic.normal ?_
              go_wp2_with fail
              go_roundw
              case rel => exact ⟨c2, swp m (f + r) (f + c2), rfl, ⟨by omega, by omega⟩, D2.out, .swap P.out (by omega) (by omega) (by omega) (by omega) (by have := DL.out; omega), sift_step SI.out hr.1 hcc2 hch2 (by have := DL.out; omega) hbest0 hlt, ((OD.out.trans (only_drew g _)).trans (Only.set g (f + r) _ _)).trans (Only.set g (f + c2) _ _)⟩
              case measure => simp [intOf]; omega
            refine ready_val (arR rfl) rfl (.int .u64 (m.getD (f + r) 0)) _ (exec_load_num (.tmp 71) rfl g (f + r) (m.getD (f + r) 0) rfl (D4.out.cell (by have := D4.out.len; omega))) ⟨trivial, ?_⟩ AllReadyH.nil
            try simp only [Act.put, stA, stZ, stS]
            refine rdy [13] ?_
            refine ready_val (arR rfl) rfl (.int .u64 (m.getD (f + c2) 0)) _ (exec_load_num (.tmp 65) rfl g (f + c2) (m.getD (f + c2) 0) rfl (D4.out.cell (by have := D4.out.len; omega))) ⟨trivial, ?_⟩ AllReadyH.nil
            try simp only [Act.put, stA, stZ, stS]
            refine tkv 20 (.pointer (some ⟨g, (f + r), none⟩)) rfl (fun W hW => exec_ixg Tryz.underlying24 (.tmp 53) (.tmp 56) rfl g n cap (f + r) ((f + r : Nat) : Int) rfl rfl (by omega) (by omega)) trivial ?_; try simp only [Act.put, stA, stZ, stS]
            refine rdy [21] ?_
            refine ready_skip (arR rfl) rfl _ (exec_store_num (.tmp 73) (.tmp 66) rfl g (f + r) (m.getD (f + c2) 0) (.int .u64 (m.getD (f + r) 0)) rfl rfl (D4.out.cell (by have := D4.out.len; omega)) (D4.out.fz (f + r))) ⟨trivial, ?_⟩ AllReadyH.nil
            have D1 := Lib.hid (D4.out.set (f + r) (m.getD (f + c2) 0) (D4.out.ok.at_ (f + c2)))
            skip
            try simp only [Act.put]
            refine tkv 22 (.pointer (some ⟨g, (f + c2), none⟩)) rfl (fun W hW => exec_ixg Tryz.underlying24 (.tmp 57) (.tmp 60) rfl g n cap (f + c2) ((f + c2 : Nat) : Int) rfl rfl (by omega) (by omega)) trivial ?_; try simp only [Act.put, stA, stZ, stS]
            refine rdy [23] ?_
            refine ready_skip (arR rfl) rfl _ (exec_store_num (.tmp 74) (.tmp 72) rfl g (f + c2) (m.getD (f + r) 0) (.int .u64 ((m.set (f + r) (m.getD (f + c2) 0)).getD (f + c2) 0)) rfl rfl (D1.out.cell (by have := D1.out.len; omega)) (D1.out.fz (f + c2))) ⟨trivial, ?_⟩ AllReadyH.nil
            have D2 := Lib.hid (D1.out.set (f + c2) (m.getD (f + r) 0) (D4.out.ok.at_ (f + r)))
            try simp only [Act.put]
            refine wpAnyH_done (by kernel_rfl) ?_ _
            refine NoPanic.normal ?_
            go_wp2_with fail
            go_roundw
            case rel => exact ⟨c2, swp m (f + r) (f + c2), rfl, ⟨by omega, by omega⟩, D2.out, .swap P.out (by omega) (by omega) (by omega) (by omega) (by have := DL.out; omega), sift_step SI.out hr.1 hcc2 hch2 (by have := DL.out; omega) hbest0 hlt, ((OD.out.trans (only_drew g _)).trans (Only.set g (f + r) _ _)).trans (Only.set g (f + c2) _ _)⟩
            case measure => simp [intOf]; omega
          · have HC5 := Lib.hid (decide_eq_false hlt)
            refine wp_region_noPanic ?_
            refine wp_region_held_drew (S := fun W => Below wd.heap.size wd W) (by kernel_rfl) S0.out (fun _ => ?_)
            refine tkm 0 rfl S0.out ?_; try simp only [Act.put, stA, stZ, stS]
            refine tkm 1 rfl S0.out ?_; try simp only [Act.put, stA, stZ, stS]
            refine tkm 2 rfl S0.out ?_; try simp only [Act.put, stA, stZ, stS]
            refine tkv 3 (.int .i64 ((f + r : Nat) : Int)) rfl (fun W hW => exec_addn (.tmp 40) (.tmp 41) rfl (f : Int) (r : Int) ((f + r : Nat) : Int) rfl rfl (by omega) (by omega)) S0.out ?_; try simp only [Act.put, stA, stZ, stS]
            refine tkv 4 (.pointer (some ⟨g, (f + r), none⟩)) rfl (fun W hW => exec_ixg Tryz.underlying24 (.tmp 39) (.tmp 42) rfl g n cap (f + r) ((f + r : Nat) : Int) rfl rfl (by omega) (by omega)) S0.out ?_; try simp only [Act.put, stA, stZ, stS]
            refine tkv 5 (.int .u64 (m.getD (f + r) 0)) rfl (fun W hW => exec_load_num (.tmp 43) rfl g (f + r) (m.getD (f + r) 0) rfl (OwnN.cell (DW.out.below hW) (by have := DW.out.len; omega))) S0.out ?_; try simp only [Act.put, stA, stZ, stS]
            refine tkm 6 rfl S0.out ?_; try simp only [Act.put, stA, stZ, stS]
            refine tkm 7 rfl S0.out ?_; try simp only [Act.put, stA, stZ, stS]
            refine tkm 8 rfl S0.out ?_; try simp only [Act.put, stA, stZ, stS]
            refine tkv 9 (.int .i64 ((f + c2 : Nat) : Int)) rfl (fun W hW => exec_addn (.tmp 46) (.tmp 47) rfl (f : Int) (c2 : Int) ((f + c2 : Nat) : Int) rfl rfl (by omega) (by omega)) S0.out ?_; try simp only [Act.put, stA, stZ, stS]
            refine tkv 10 (.pointer (some ⟨g, (f + c2), none⟩)) rfl (fun W hW => exec_ixg Tryz.underlying24 (.tmp 45) (.tmp 48) rfl g n cap (f + c2) ((f + c2 : Nat) : Int) rfl rfl (by omega) (by omega)) S0.out ?_; try simp only [Act.put, stA, stZ, stS]
            refine tkv 11 (.int .u64 (m.getD (f + c2) 0)) rfl (fun W hW => exec_load_num (.tmp 49) rfl g (f + c2) (m.getD (f + c2) 0) rfl (OwnN.cell (DW.out.below hW) (by have := DW.out.len; omega))) S0.out ?_; try simp only [Act.put, stA, stZ, stS]
            refine rdy [12] ?_
            refine AllReadyH.cons (arR rfl) (fun K hK => ?_) AllReadyH.nil
            go_simp
            refine (less16_is _ _ false _ (Lib.hid (HC5.out))).mono ?_
            rintro e wl ⟨rfl, rfl⟩
            go_wp2_with fail
            refine hK.out _ _ S0.out (fun _ => ?_)
            clear hK K
            try simp only [Act.put, stA, stZ, stS]
            refine tkm 13 rfl S0.out ?_; try simp only [Act.put, stA, stZ, stS]
            refine wpAnyH_done (by kernel_rfl) ?_ _
            refine NoPanic.normal ?_
            go_wp2_with fail
            refine bodyPost_ret (results_none rfl _ _ _) rfl ?_
            exact ⟨rfl, OD.out, m, D3.out, P.out, sift_end SI.out (fun d hd hdh => Int.le_trans (hbest0 d hd hdh) (by omega))⟩
        · have HC := Lib.hid (decide_eq_false hle)
          refine wp_region_noPanic ?_
          refine wp_region_held_drew (S := fun W => Below wr.heap.size wr W) (by kernel_rfl) S0.out (fun _ => ?_)
          refine tkm 0 rfl S0.out ?_; try simp only [Act.put, stA, stZ, stS]
          refine tkv 1 (.int .i64 ((c + 1 : Nat) : Int)) rfl (fun W hW => exec_addn (.tmp 17) (.const (.int .i64 1)) rfl (c : Int) 1 ((c + 1 : Nat) : Int) rfl rfl (by omega) (by omega)) S0.out ?_; try simp only [Act.put, stA, stZ, stS]
          refine tkm 2 rfl S0.out ?_; try simp only [Act.put, stA, stZ, stS]
          refine tkv 3 (.bool true) rfl (fun W hW => exec_lt (.tmp 18) (.tmp 19) rfl ((c + 1 : Nat) : Int) (hi : Int) true rfl rfl (by first | assumption | exact decide_eq_true (by omega) | exact decide_eq_false (by omega))) S0.out ?_; try simp only [Act.put, stA, stZ, stS]
          refine tkm 4 rfl S0.out ?_; try simp only [Act.put, stA, stZ, stS]
          refine tkm 5 rfl S0.out ?_; try simp only [Act.put, stA, stZ, stS]
          refine tkm 6 rfl S0.out ?_; try simp only [Act.put, stA, stZ, stS]
          refine tkm 7 rfl S0.out ?_; try simp only [Act.put, stA, stZ, stS]
          refine tkv 8 (.int .i64 ((f + c : Nat) : Int)) rfl (fun W hW => exec_addn (.tmp 23) (.tmp 24) rfl (f : Int) (c : Int) ((f + c : Nat) : Int) rfl rfl (by omega) (by omega)) S0.out ?_; try simp only [Act.put, stA, stZ, stS]
          refine tkv 9 (.pointer (some ⟨g, (f + c), none⟩)) rfl (fun W hW => exec_ixg Tryz.underlying24 (.tmp 22) (.tmp 25) rfl g n cap (f + c) ((f + c : Nat) : Int) rfl rfl (by omega) (by omega)) S0.out ?_; try simp only [Act.put, stA, stZ, stS]
          refine tkv 10 (.int .u64 (m.getD (f + c) 0)) rfl (fun W hW => exec_load_num (.tmp 26) rfl g (f + c) (m.getD (f + c) 0) rfl (OwnN.cell (D1.out.below hW) (by have := D1.out.len; omega))) S0.out ?_; try simp only [Act.put, stA, stZ, stS]
          refine tkm 11 rfl S0.out ?_; try simp only [Act.put, stA, stZ, stS]
          refine tkm 12 rfl S0.out ?_; try simp only [Act.put, stA, stZ, stS]
          refine tkm 13 rfl S0.out ?_; try simp only [Act.put, stA, stZ, stS]
          refine tkv 14 (.int .i64 ((f + c : Nat) : Int)) rfl (fun W hW => exec_addn (.tmp 29) (.tmp 30) rfl (f : Int) (c : Int) ((f + c : Nat) : Int) rfl rfl (by omega) (by omega)) S0.out ?_; try simp only [Act.put, stA, stZ, stS]
          refine tkv 15 (.int .i64 ((f + c + 1 : Nat) : Int)) rfl (fun W hW => exec_addn (.tmp 31) (.const (.int .i64 1)) rfl ((f + c : Nat) : Int) 1 ((f + c + 1 : Nat) : Int) rfl rfl (by omega) (by omega)) S0.out ?_; try simp only [Act.put, stA, stZ, stS]
          refine tkv 16 (.pointer (some ⟨g, (f + c + 1), none⟩)) rfl (fun W hW => exec_ixg Tryz.underlying24 (.tmp 28) (.tmp 32) rfl g n cap (f + c + 1) ((f + c + 1 : Nat) : Int) rfl rfl (by omega) (by omega)) S0.out ?_; try simp only [Act.put, stA, stZ, stS]
          refine tkv 17 (.int .u64 (m.getD (f + c + 1) 0)) rfl (fun W hW => exec_load_num (.tmp 33) rfl g (f + c + 1) (m.getD (f + c + 1) 0) rfl (OwnN.cell (D1.out.below hW) (by have := D1.out.len; omega))) S0.out ?_; try simp only [Act.put, stA, stZ, stS]
          refine rdy [18] ?_
          refine AllReadyH.cons (arR rfl) (fun K hK => ?_) AllReadyH.nil
          go_simp
          refine (less16_is _ _ false _ (Lib.hid (HC.out))).mono ?_
          rintro e wl ⟨rfl, rfl⟩
          go_wp2_with fail
          refine hK.out _ _ S0.out (fun _ => ?_)
          clear hK K
          try simp only [Act.put, stA, stZ, stS]
          refine tkm 19 rfl S0.out ?_; try simp only [Act.put, stA, stZ, stS]
          refine wpAnyH_done (by kernel_rfl) ?_ _
          refine NoPanic.normal ?_
          go_wp2_with fail
          obtain ⟨wd, ewd⟩ : ∃ z, z = wr.drew := ⟨_, rfl⟩
          have DW := Lib.hid (show OwnN wd B (.slice (some ⟨g, 0, none⟩) n cap) m by rw [ewd]; exact D1b.out)
          have OW := Lib.hid (show Only g w wd by rw [ewd]; exact OO.out.trans (only_drew g wr))
          rw [← ewd]
          clear ewd
          have S0 := Lib.hid (show Below wd.heap.size wd wd.drew from below_drew (Below.refl _ _))
          have D3 := Lib.hid (DW.out.below S0.out)
          have OD := Lib.hid (OW.out.trans (only_drew g wd))
          have hbest : ∀ d, d = 2 * r + 1 ∨ d = 2 * r + 2 → d < hi → m.getD (f + d) 0 ≤ m.getD (f + c) 0 := fun d hd hdh => by
            rcases hd with hd | hd
            · rw [hd, ← HCe.out]; omega
            · rw [show f + d = f + c + 1 by have := HCe.out; omega]; omega
          by_cases hlt : m.getD (f + r) 0 < m.getD (f + c) 0
          · have HC5 := Lib.hid (decide_eq_true hlt)
            refine wp_region_noPanic ?_
            refine wp_region_held_drew (S := fun W => Below wd.heap.size wd W) (by kernel_rfl) S0.out (fun _ => ?_)
            refine tkm 0 rfl S0.out ?_; try simp only [Act.put, stA, stZ, stS]
            refine tkm 1 rfl S0.out ?_; try simp only [Act.put, stA, stZ, stS]
            refine tkm 2 rfl S0.out ?_; try simp only [Act.put, stA, stZ, stS]
            refine tkv 3 (.int .i64 ((f + r : Nat) : Int)) rfl (fun W hW => exec_addn (.tmp 40) (.tmp 41) rfl (f : Int) (r : Int) ((f + r : Nat) : Int) rfl rfl (by omega) (by omega)) S0.out ?_; try simp only [Act.put, stA, stZ, stS]
            refine tkv 4 (.pointer (some ⟨g, (f + r), none⟩)) rfl (fun W hW => exec_ixg Tryz.underlying24 (.tmp 39) (.tmp 42) rfl g n cap (f + r) ((f + r : Nat) : Int) rfl rfl (by omega) (by omega)) S0.out ?_; try simp only [Act.put, stA, stZ, stS]
            refine tkv 5 (.int .u64 (m.getD (f + r) 0)) rfl (fun W hW => exec_load_num (.tmp 43) rfl g (f + r) (m.getD (f + r) 0) rfl (OwnN.cell (DW.out.below hW) (by have := DW.out.len; omega))) S0.out ?_; try simp only [Act.put, stA, stZ, stS]
            refine tkm 6 rfl S0.out ?_; try simp only [Act.put, stA, stZ, stS]
            refine tkm 7 rfl S0.out ?_; try simp only [Act.put, stA, stZ, stS]
            refine tkm 8 rfl S0.out ?_; try simp only [Act.put, stA, stZ, stS]
            refine tkv 9 (.int .i64 ((f + c : Nat) : Int)) rfl (fun W hW => exec_addn (.tmp 46) (.tmp 47) rfl (f : Int) (c : Int) ((f + c : Nat) : Int) rfl rfl (by omega) (by omega)) S0.out ?_; try simp only [Act.put, stA, stZ, stS]
            refine tkv 10 (.pointer (some ⟨g, (f + c), none⟩)) rfl (fun W hW => exec_ixg Tryz.underlying24 (.tmp 45) (.tmp 48) rfl g n cap (f + c) ((f + c : Nat) : Int) rfl rfl (by omega) (by omega)) S0.out ?_; try simp only [Act.put, stA, stZ, stS]
            refine tkv 11 (.int .u64 (m.getD (f + c) 0)) rfl (fun W hW => exec_load_num (.tmp 49) rfl g (f + c) (m.getD (f + c) 0) rfl (OwnN.cell (DW.out.below hW) (by have := DW.out.len; omega))) S0.out ?_; try simp only [Act.put, stA, stZ, stS]
            refine rdy [12] ?_
            refine AllReadyH.cons (arR rfl) (fun K hK => ?_) AllReadyH.nil
            go_simp
            refine (less16_is _ _ true _ (Lib.hid (HC5.out))).mono ?_
            rintro e wl ⟨rfl, rfl⟩
            go_wp2_with fail
            refine hK.out _ _ S0.out (fun _ => ?_)
            clear hK K
            try simp only [Act.put, stA, stZ, stS]
            refine tkm 13 rfl S0.out ?_; try simp only [Act.put, stA, stZ, stS]
            refine wpAnyH_done (by kernel_rfl) ?_ _
            refine NoPanic.normal ?_
            go_wp2_with fail
            have D4 := Lib.hid (D3.out.below (below_drew (Below.refl _ _)))
            refine wp_region_noPanic ?_
            refine wp_region_held_drew (S := fun _ => True) (by kernel_rfl) trivial (fun _ => ?_)
            refine tkm 0 rfl trivial ?_; try simp only [Act.put, stA, stZ, stS]
            refine tkm 1 rfl trivial ?_; try simp only [Act.put, stA, stZ, stS]
            refine tkm 2 rfl trivial ?_; try simp only [Act.put, stA, stZ, stS]
            refine tkv 3 (.int .i64 ((f + r : Nat) : Int)) rfl (fun W hW => exec_addn (.tmp 54) (.tmp 55) rfl (f : Int) (r : Int) ((f + r : Nat) : Int) rfl rfl (by omega) (by omega)) trivial ?_; try simp only [Act.put, stA, stZ, stS]
            refine tkm 4 rfl trivial ?_; try simp only [Act.put, stA, stZ, stS]
            refine tkm 5 rfl trivial ?_; try simp only [Act.put, stA, stZ, stS]
            refine tkm 6 rfl trivial ?_; try simp only [Act.put, stA, stZ, stS]
            refine tkv 7 (.int .i64 ((f + c : Nat) : Int)) rfl (fun W hW => exec_addn (.tmp 58) (.tmp 59) rfl (f : Int) (c : Int) ((f + c : Nat) : Int) rfl rfl (by omega) (by omega)) trivial ?_; try simp only [Act.put, stA, stZ, stS]
            refine tkm 8 rfl trivial ?_; try simp only [Act.put, stA, stZ, stS]
            refine tkm 9 rfl trivial ?_; try simp only [Act.put, stA, stZ, stS]
            refine tkm 10 rfl trivial ?_; try simp only [Act.put, stA, stZ, stS]
            refine tkv 11 (.int .i64 ((f + c : Nat) : Int)) rfl (fun W hW => exec_addn (.tmp 62) (.tmp 63) rfl (f : Int) (c : Int) ((f + c : Nat) : Int) rfl rfl (by omega) (by omega)) trivial ?_; try simp only [Act.put, stA, stZ, stS]
            refine tkv 12 (.pointer (some ⟨g, (f + c), none⟩)) rfl (fun W hW => exec_ixg Tryz.underlying24 (.tmp 61) (.tmp 64) rfl g n cap (f + c) ((f + c : Nat) : Int) rfl rfl (by omega) (by omega)) trivial ?_; try simp only [Act.put, stA, stZ, stS]
            refine tkm 14 rfl trivial ?_; try simp only [Act.put, stA, stZ, stS]
            refine tkm 15 rfl trivial ?_; try simp only [Act.put, stA, stZ, stS]
            refine tkm 16 rfl trivial ?_; try simp only [Act.put, stA, stZ, stS]
            refine tkv 17 (.int .i64 ((f + r : Nat) : Int)) rfl (fun W hW => exec_addn (.tmp 68) (.tmp 69) rfl (f : Int) (r : Int) ((f + r : Nat) : Int) rfl rfl (by omega) (by omega)) trivial ?_; try simp only [Act.put, stA, stZ, stS]
            refine tkv 18 (.pointer (some ⟨g, (f + r), none⟩)) rfl (fun W hW => exec_ixg Tryz.underlying24 (.tmp 67) (.tmp 70) rfl g n cap (f + r) ((f + r : Nat) : Int) rfl rfl (by omega) (by omega)) trivial ?_; try simp only [Act.put, stA, stZ, stS]
            refine rdy [13, 19] ?_
            refine ready_val (arR rfl) rfl (.int .u64 (m.getD (f + c) 0)) _ (exec_load_num (.tmp 65) rfl g (f + c) (m.getD (f + c) 0) rfl (D4.out.cell (by have := D4.out.len; omega))) ⟨trivial, ?_⟩ ?_
            · try simp only [Act.put, stA, stZ, stS]
              refine rdy [19] ?_
              refine ready_val (arR rfl) rfl (.int .u64 (m.getD (f + r) 0)) _ (exec_load_num (.tmp 71) rfl g (f + r) (m.getD (f + r) 0) rfl (D4.out.cell (by have := D4.out.len; omega))) ⟨trivial, ?_⟩ AllReadyH.nil
              try simp only [Act.put, stA, stZ, stS]
              refine tkv 20 (.pointer (some ⟨g, (f + r), none⟩)) rfl (fun W hW => exec_ixg Tryz.underlying24 (.tmp 53) (.tmp 56) rfl g n cap (f + r) ((f + r : Nat) : Int) rfl rfl (by omega) (by omega)) trivial ?_; try simp only [Act.put, stA, stZ, stS]
              refine rdy [21] ?_
              refine ready_skip (arR rfl) rfl _ (exec_store_num (.tmp 73) (.tmp 66) rfl g (f + r) (m.getD (f + c) 0) (.int .u64 (m.getD (f + r) 0)) rfl rfl (D4.out.cell (by have := D4.out.len; omega)) (D4.out.fz (f + r))) ⟨trivial, ?_⟩ AllReadyH.nil
              have D1 := Lib.hid (D4.out.set (f + r) (m.getD (f + c) 0) (D4.out.ok.at_ (f + c)))
              skip
              try simp only [Act.put]
              refine tkv 22 (.pointer (some ⟨g, (f + c), none⟩)) rfl (fun W hW => exec_ixg Tryz.underlying24 (.tmp 57) (.tmp 60) rfl g n cap (f + c) ((f + c : Nat) : Int) rfl rfl (by omega) (by omega)) trivial ?_; try simp only [Act.put, stA, stZ, stS]
              refine rdy [23] ?_
              refine ready_skip (arR rfl) rfl _ (exec_store_num (.tmp 74) (.tmp 72) rfl g (f + c) (m.getD (f + r) 0) (.int .u64 ((m.set (f + r) (m.getD (f + c) 0)).getD (f + c) 0)) rfl rfl (D1.out.cell (by have := D1.out.len; omega)) (D1.out.fz (f + c))) ⟨trivial, ?_⟩ AllReadyH.nil
              have D2 := Lib.hid (D1.out.set (f + c) (m.getD (f + r) 0) (D4.out.ok.at_ (f + r)))
              try simp only [Act.put]
              refine wpAnyH_done (by kernel_rfl) ?_ _
              refine NoPanic.normal ?_
              go_wp2_with fail
              go_roundw
              case rel => exact ⟨c, swp m (f + r) (f + c), rfl, ⟨by omega, by omega⟩, D2.out, .swap P.out (by omega) (by omega) (by omega) (by omega) (by have := DL.out; omega), sift_step SI.out hr.1 hcc hch (by have := DL.out; omega) hbest hlt, ((OD.out.trans (only_drew g _)).trans (Only.set g (f + r) _ _)).trans (Only.set g (f + c) _ _)⟩
              case measure => simp [intOf]; omega
            refine ready_val (arR rfl) rfl (.int .u64 (m.getD (f + r) 0)) _ (exec_load_num (.tmp 71) rfl g (f + r) (m.getD (f + r) 0) rfl (D4.out.cell (by have := D4.out.len; omega))) ⟨trivial, ?_⟩ AllReadyH.nil
            try simp only [Act.put, stA, stZ, stS]
            refine rdy [13] ?_
            refine ready_val (arR rfl) rfl (.int .u64 (m.getD (f + c) 0)) _ (exec_load_num (.tmp 65) rfl g (f + c) (m.getD (f + c) 0) rfl (D4.out.cell (by have := D4.out.len; omega))) ⟨trivial, ?_⟩ AllReadyH.nil
            try simp only [Act.put, stA, stZ, stS]
            refine tkv 20 (.pointer (some ⟨g, (f + r), none⟩)) rfl (fun W hW => exec_ixg Tryz.underlying24 (.tmp 53) (.tmp 56) rfl g n cap (f + r) ((f + r : Nat) : Int) rfl rfl (by omega) (by omega)) trivial ?_; try simp only [Act.put, stA, stZ, stS]
            refine rdy [21] ?_
            refine ready_skip (arR rfl) rfl _ (exec_store_num (.tmp 73) (.tmp 66) rfl g (f + r) (m.getD (f + c) 0) (.int .u64 (m.getD (f + r) 0)) rfl rfl (D4.out.cell (by have := D4.out.len; omega)) (D4.out.fz (f + r))) ⟨trivial, ?_⟩ AllReadyH.nil
            have D1 := Lib.hid (D4.out.set (f + r) (m.getD (f + c) 0) (D4.out.ok.at_ (f + c)))
            skip
            try simp only [Act.put]
            refine tkv 22 (.pointer (some ⟨g, (f + c), none⟩)) rfl (fun W hW => exec_ixg Tryz.underlying24 (.tmp 57) (.tmp 60) rfl g n cap (f + c) ((f + c : Nat) : Int) rfl rfl (by omega) (by omega)) trivial ?_; try simp only [Act.put, stA, stZ, stS]
            refine rdy [23] ?_
            refine ready_skip (arR rfl) rfl _ (exec_store_num (.tmp 74) (.tmp 72) rfl g (f + c) (m.getD (f + r) 0) (.int .u64 ((m.set (f + r) (m.getD (f + c) 0)).getD (f + c) 0)) rfl rfl (D1.out.cell (by have := D1.out.len; omega)) (D1.out.fz (f + c))) ⟨trivial, ?_⟩ AllReadyH.nil
            have D2 := Lib.hid (D1.out.set (f + c) (m.getD (f + r) 0) (D4.out.ok.at_ (f + r)))
            try simp only [Act.put]
            refine wpAnyH_done (by kernel_rfl) ?_ _
            refine NoPanic.normal ?_
            go_wp2_with fail
            go_roundw
            case rel => exact ⟨c, swp m (f + r) (f + c), rfl, ⟨by omega, by omega⟩, D2.out, .swap P.out (by omega) (by omega) (by omega) (by omega) (by have := DL.out; omega), sift_step SI.out hr.1 hcc hch (by have := DL.out; omega) hbest hlt, ((OD.out.trans (only_drew g _)).trans (Only.set g (f + r) _ _)).trans (Only.set g (f + c) _ _)⟩
            case measure => simp [intOf]; omega
          · have HC5 := Lib.hid (decide_eq_false hlt)
            refine wp_region_noPanic ?_
            refine wp_region_held_drew (S := fun W => Below wd.heap.size wd W) (by kernel_rfl) S0.out (fun _ => ?_)
            refine tkm 0 rfl S0.out ?_; try simp only [Act.put, stA, stZ, stS]
            refine tkm 1 rfl S0.out ?_; try simp only [Act.put, stA, stZ, stS]
            refine tkm 2 rfl S0.out ?_; try simp only [Act.put, stA, stZ, stS]
            refine tkv 3 (.int .i64 ((f + r : Nat) : Int)) rfl (fun W hW => exec_addn (.tmp 40) (.tmp 41) rfl (f : Int) (r : Int) ((f + r : Nat) : Int) rfl rfl (by omega) (by omega)) S0.out ?_; try simp only [Act.put, stA, stZ, stS]
            refine tkv 4 (.pointer (some ⟨g, (f + r), none⟩)) rfl (fun W hW => exec_ixg Tryz.underlying24 (.tmp 39) (.tmp 42) rfl g n cap (f + r) ((f + r : Nat) : Int) rfl rfl (by omega) (by omega)) S0.out ?_; try simp only [Act.put, stA, stZ, stS]
            refine tkv 5 (.int .u64 (m.getD (f + r) 0)) rfl (fun W hW => exec_load_num (.tmp 43) rfl g (f + r) (m.getD (f + r) 0) rfl (OwnN.cell (DW.out.below hW) (by have := DW.out.len; omega))) S0.out ?_; try simp only [Act.put, stA, stZ, stS]
            refine tkm 6 rfl S0.out ?_; try simp only [Act.put, stA, stZ, stS]
            refine tkm 7 rfl S0.out ?_; try simp only [Act.put, stA, stZ, stS]
            refine tkm 8 rfl S0.out ?_; try simp only [Act.put, stA, stZ, stS]
            refine tkv 9 (.int .i64 ((f + c : Nat) : Int)) rfl (fun W hW => exec_addn (.tmp 46) (.tmp 47) rfl (f : Int) (c : Int) ((f + c : Nat) : Int) rfl rfl (by omega) (by omega)) S0.out ?_; try simp only [Act.put, stA, stZ, stS]
            refine tkv 10 (.pointer (some ⟨g, (f + c), none⟩)) rfl (fun W hW => exec_ixg Tryz.underlying24 (.tmp 45) (.tmp 48) rfl g n cap (f + c) ((f + c : Nat) : Int) rfl rfl (by omega) (by omega)) S0.out ?_; try simp only [Act.put, stA, stZ, stS]
            refine tkv 11 (.int .u64 (m.getD (f + c) 0)) rfl (fun W hW => exec_load_num (.tmp 49) rfl g (f + c) (m.getD (f + c) 0) rfl (OwnN.cell (DW.out.below hW) (by have := DW.out.len; omega))) S0.out ?_; try simp only [Act.put, stA, stZ, stS]
            refine rdy [12] ?_
            refine AllReadyH.cons (arR rfl) (fun K hK => ?_) AllReadyH.nil
            go_simp
            refine (less16_is _ _ false _ (Lib.hid (HC5.out))).mono ?_
            rintro e wl ⟨rfl, rfl⟩
            go_wp2_with fail
            refine hK.out _ _ S0.out (fun _ => ?_)
            clear hK K
            try simp only [Act.put, stA, stZ, stS]
            refine tkm 13 rfl S0.out ?_; try simp only [Act.put, stA, stZ, stS]
            refine wpAnyH_done (by kernel_rfl) ?_ _
            refine NoPanic.normal ?_
            go_wp2_with fail
            refine bodyPost_ret (results_none rfl _ _ _) rfl ?_
            exact ⟨rfl, OD.out, m, D3.out, P.out, sift_end SI.out (fun d hd hdh => Int.le_trans (hbest d hd hdh) (by omega))⟩
      · have hg1 : decide (((c + 1 : Nat) : Int) < (hi : Int)) = false := decide_eq_false (by omega)
        refine wp_region_noPanic ?_
        refine wp_region_held_drew (S := fun W => Below wr.heap.size wr W) (by kernel_rfl) S0.out (fun _ => ?_)
        refine tkm 0 rfl S0.out ?_; try simp only [Act.put, stA, stZ, stS]
        refine tkv 1 (.int .i64 ((c + 1 : Nat) : Int)) rfl (fun W hW => exec_addn (.tmp 17) (.const (.int .i64 1)) rfl (c : Int) 1 ((c + 1 : Nat) : Int) rfl rfl (by omega) (by omega)) S0.out ?_; try simp only [Act.put, stA, stZ, stS]
        refine tkm 2 rfl S0.out ?_; try simp only [Act.put, stA, stZ, stS]
        refine tkv 3 (.bool false) rfl (fun W hW => exec_lt (.tmp 18) (.tmp 19) rfl ((c + 1 : Nat) : Int) (hi : Int) false rfl rfl (by first | assumption | exact decide_eq_true (by omega) | exact decide_eq_false (by omega))) S0.out ?_; try simp only [Act.put, stA, stZ, stS]
        refine tkm 4 rfl S0.out ?_; try simp only [Act.put, stA, stZ, stS]
        refine tks 5 rfl S0.out ?_; try simp only [Act.put, stA, stZ, stS]
        refine tks 6 rfl S0.out ?_; try simp only [Act.put, stA, stZ, stS]
        refine tks 7 rfl S0.out ?_; try simp only [Act.put, stA, stZ, stS]
        refine tks 8 rfl S0.out ?_; try simp only [Act.put, stA, stZ, stS]
        refine tks 9 rfl S0.out ?_; try simp only [Act.put, stA, stZ, stS]
        refine tks 10 rfl S0.out ?_; try simp only [Act.put, stA, stZ, stS]
        refine tks 11 rfl S0.out ?_; try simp only [Act.put, stA, stZ, stS]
        refine tks 12 rfl S0.out ?_; try simp only [Act.put, stA, stZ, stS]
        refine tks 13 rfl S0.out ?_; try simp only [Act.put, stA, stZ, stS]
        refine tks 14 rfl S0.out ?_; try simp only [Act.put, stA, stZ, stS]
        refine tks 15 rfl S0.out ?_; try simp only [Act.put, stA, stZ, stS]
        refine tks 16 rfl S0.out ?_; try simp only [Act.put, stA, stZ, stS]
        refine tks 17 rfl S0.out ?_; try simp only [Act.put, stA, stZ, stS]
        refine tks 18 rfl S0.out ?_; try simp only [Act.put, stA, stZ, stS]
        refine tkm 19 rfl S0.out ?_; try simp only [Act.put, stA, stZ, stS]
        refine wpAnyH_done (by kernel_rfl) ?_ _
        refine NoPanic.normal ?_
        go_wp2_with fail
        obtain ⟨wd, ewd⟩ : ∃ z, z = wr.drew := ⟨_, rfl⟩
        have DW := Lib.hid (show OwnN wd B (.slice (some ⟨g, 0, none⟩) n cap) m by rw [ewd]; exact D1b.out)
        have OW := Lib.hid (show Only g w wd by rw [ewd]; exact OO.out.trans (only_drew g wr))
        rw [← ewd]
        clear ewd
        have S0 := Lib.hid (show Below wd.heap.size wd wd.drew from below_drew (Below.refl _ _))
        have D3 := Lib.hid (DW.out.below S0.out)
        have OD := Lib.hid (OW.out.trans (only_drew g wd))
        have hbest : ∀ d, d = 2 * r + 1 ∨ d = 2 * r + 2 → d < hi → m.getD (f + d) 0 ≤ m.getD (f + c) 0 := fun d hd hdh => by
          rcases hd with hd | hd
          · rw [hd, ← HCe.out]; exact Int.le_refl _
          · have := HCe.out; omega
        by_cases hlt : m.getD (f + r) 0 < m.getD (f + c) 0
        · have HC5 := Lib.hid (decide_eq_true hlt)
          refine wp_region_noPanic ?_
          refine wp_region_held_drew (S := fun W => Below wd.heap.size wd W) (by kernel_rfl) S0.out (fun _ => ?_)
          refine tkm 0 rfl S0.out ?_; try simp only [Act.put, stA, stZ, stS]
          refine tkm 1 rfl S0.out ?_; try simp only [Act.put, stA, stZ, stS]
          refine tkm 2 rfl S0.out ?_; try simp only [Act.put, stA, stZ, stS]
          refine tkv 3 (.int .i64 ((f + r : Nat) : Int)) rfl (fun W hW => exec_addn (.tmp 40) (.tmp 41) rfl (f : Int) (r : Int) ((f + r : Nat) : Int) rfl rfl (by omega) (by omega)) S0.out ?_; try simp only [Act.put, stA, stZ, stS]
          refine tkv 4 (.pointer (some ⟨g, (f + r), none⟩)) rfl (fun W hW => exec_ixg Tryz.underlying24 (.tmp 39) (.tmp 42) rfl g n cap (f + r) ((f + r : Nat) : Int) rfl rfl (by omega) (by omega)) S0.out ?_; try simp only [Act.put, stA, stZ, stS]
          refine tkv 5 (.int .u64 (m.getD (f + r) 0)) rfl (fun W hW => exec_load_num (.tmp 43) rfl g (f + r) (m.getD (f + r) 0) rfl (OwnN.cell (DW.out.below hW) (by have := DW.out.len; omega))) S0.out ?_; try simp only [Act.put, stA, stZ, stS]
          refine tkm 6 rfl S0.out ?_; try simp only [Act.put, stA, stZ, stS]
          refine tkm 7 rfl S0.out ?_; try simp only [Act.put, stA, stZ, stS]
          refine tkm 8 rfl S0.out ?_; try simp only [Act.put, stA, stZ, stS]
          refine tkv 9 (.int .i64 ((f + c : Nat) : Int)) rfl (fun W hW => exec_addn (.tmp 46) (.tmp 47) rfl (f : Int) (c : Int) ((f + c : Nat) : Int) rfl rfl (by omega) (by omega)) S0.out ?_; try simp only [Act.put, stA, stZ, stS]
          refine tkv 10 (.pointer (some ⟨g, (f + c), none⟩)) rfl (fun W hW => exec_ixg Tryz.underlying24 (.tmp 45) (.tmp 48) rfl g n cap (f + c) ((f + c : Nat) : Int) rfl rfl (by omega) (by omega)) S0.out ?_; try simp only [Act.put, stA, stZ, stS]
          refine tkv 11 (.int .u64 (m.getD (f + c) 0)) rfl (fun W hW => exec_load_num (.tmp 49) rfl g (f + c) (m.getD (f + c) 0) rfl (OwnN.cell (DW.out.below hW) (by have := DW.out.len; omega))) S0.out ?_; try simp only [Act.put, stA, stZ, stS]
          refine rdy [12] ?_
          refine AllReadyH.cons (arR rfl) (fun K hK => ?_) AllReadyH.nil
          go_simp
          refine (less16_is _ _ true _ (Lib.hid (HC5.out))).mono ?_
          rintro e wl ⟨rfl, rfl⟩
          go_wp2_with fail
          refine hK.out _ _ S0.out (fun _ => ?_)
          clear hK K
          try simp only [Act.put, stA, stZ, stS]
          refine tkm 13 rfl S0.out ?_; try simp only [Act.put, stA, stZ, stS]
          refine wpAnyH_done (by kernel_rfl) ?_ _
          refine NoPanic.normal ?_
          go_wp2_with fail
          have D4 := Lib.hid (D3.out.below (below_drew (Below.refl _ _)))
          refine wp_region_noPanic ?_
          refine wp_region_held_drew (S := fun _ => True) (by kernel_rfl) trivial (fun _ => ?_)
          refine tkm 0 rfl trivial ?_; try simp only [Act.put, stA, stZ, stS]
          refine tkm 1 rfl trivial ?_; try simp only [Act.put, stA, stZ, stS]
          refine tkm 2 rfl trivial ?_; try simp only [Act.put, stA, stZ, stS]
          refine tkv 3 (.int .i64 ((f + r : Nat) : Int)) rfl (fun W hW => exec_addn (.tmp 54) (.tmp 55) rfl (f : Int) (r : Int) ((f + r : Nat) : Int) rfl rfl (by omega) (by omega)) trivial ?_; try simp only [Act.put, stA, stZ, stS]
          refine tkm 4 rfl trivial ?_; try simp only [Act.put, stA, stZ, stS]
          refine tkm 5 rfl trivial ?_; try simp only [Act.put, stA, stZ, stS]
          refine tkm 6 rfl trivial ?_; try simp only [Act.put, stA, stZ, stS]
          refine tkv 7 (.int .i64 ((f + c : Nat) : Int)) rfl (fun W hW => exec_addn (.tmp 58) (.tmp 59) rfl (f : Int) (c : Int) ((f + c : Nat) : Int) rfl rfl (by omega) (by omega)) trivial ?_; try simp only [Act.put, stA, stZ, stS]
          refine tkm 8 rfl trivial ?_; try simp only [Act.put, stA, stZ, stS]
          refine tkm 9 rfl trivial ?_; try simp only [Act.put, stA, stZ, stS]
          refine tkm 10 rfl trivial ?_; try simp only [Act.put, stA, stZ, stS]
          refine tkv 11 (.int .i64 ((f + c : Nat) : Int)) rfl (fun W hW => exec_addn (.tmp 62) (.tmp 63) rfl (f : Int) (c : Int) ((f + c : Nat) : Int) rfl rfl (by omega) (by omega)) trivial ?_; try simp only [Act.put, stA, stZ, stS]
          refine tkv 12 (.pointer (some ⟨g, (f + c), none⟩)) rfl (fun W hW => exec_ixg Tryz.underlying24 (.tmp 61) (.tmp 64) rfl g n cap (f + c) ((f + c : Nat) : Int) rfl rfl (by omega) (by omega)) trivial ?_; try simp only [Act.put, stA, stZ, stS]
          refine tkm 14 rfl trivial ?_; try simp only [Act.put, stA, stZ, stS]
          refine tkm 15 rfl trivial ?_; try simp only [Act.put, stA, stZ, stS]
          refine tkm 16 rfl trivial ?_; try simp only [Act.put, stA, stZ, stS]
          refine tkv 17 (.int .i64 ((f + r : Nat) : Int)) rfl (fun W hW => exec_addn (.tmp 68) (.tmp 69) rfl (f : Int) (r : Int) ((f + r : Nat) : Int) rfl rfl (by omega) (by omega)) trivial ?_; try simp only [Act.put, stA, stZ, stS]
          refine tkv 18 (.pointer (some ⟨g, (f + r), none⟩)) rfl (fun W hW => exec_ixg Tryz.underlying24 (.tmp 67) (.tmp 70) rfl g n cap (f + r) ((f + r : Nat) : Int) rfl rfl (by omega) (by omega)) trivial ?_; try simp only [Act.put, stA, stZ, stS]
          refine rdy [13, 19] ?_
          refine ready_val (arR rfl) rfl (.int .u64 (m.getD (f + c) 0)) _ (exec_load_num (.tmp 65) rfl g (f + c) (m.getD (f + c) 0) rfl (D4.out.cell (by have := D4.out.len; omega))) ⟨trivial, ?_⟩ ?_
          · try simp only [Act.put, stA, stZ, stS]
            refine rdy [19] ?_
            refine ready_val (arR rfl) rfl (.int .u64 (m.getD (f + r) 0)) _ (exec_load_num (.tmp 71) rfl g (f + r) (m.getD (f + r) 0) rfl (D4.out.cell (by have := D4.out.len; omega))) ⟨trivial, ?_⟩ AllReadyH.nil
            try simp only [Act.put, stA, stZ, stS]
            refine tkv 20 (.pointer (some ⟨g, (f + r), none⟩)) rfl (fun W hW => exec_ixg Tryz.underlying24 (.tmp 53) (.tmp 56) rfl g n cap (f + r) ((f + r : Nat) : Int) rfl rfl (by omega) (by omega)) trivial ?_; try simp only [Act.put, stA, stZ, stS]
            refine rdy [21] ?_
            refine ready_skip (arR rfl) rfl _ (exec_store_num (.tmp 73) (.tmp 66) rfl g (f + r) (m.getD (f + c) 0) (.int .u64 (m.getD (f + r) 0)) rfl rfl (D4.out.cell (by have := D4.out.len; omega)) (D4.out.fz (f + r))) ⟨trivial, ?_⟩ AllReadyH.nil
            have D1 := Lib.hid (D4.out.set (f + r) (m.getD (f + c) 0) (D4.out.ok.at_ (f + c)))
            skip
            try simp only [Act.put]
            refine tkv 22 (.pointer (some ⟨g, (f + c), none⟩)) rfl (fun W hW => exec_ixg Tryz.underlying24 (.tmp 57) (.tmp 60) rfl g n cap (f + c) ((f + c : Nat) : Int) rfl rfl (by omega) (by omega)) trivial ?_; try simp only [Act.put, stA, stZ, stS]
            refine rdy [23] ?_
            refine ready_skip (arR rfl) rfl _ (exec_store_num (.tmp 74) (.tmp 72) rfl g (f + c) (m.getD (f + r) 0) (.int .u64 ((m.set (f + r) (m.getD (f + c) 0)).getD (f + c) 0)) rfl rfl (D1.out.cell (by have := D1.out.len; omega)) (D1.out.fz (f + c))) ⟨trivial, ?_⟩ AllReadyH.nil
            have D2 := Lib.hid (D1.out.set (f + c) (m.getD (f + r) 0) (D4.out.ok.at_ (f + r)))
            try simp only [Act.put]
            refine wpAnyH_done (by kernel_rfl) ?_ _
            refine NoPanic.normal ?_
            go_wp2_with fail
            go_roundw
            case rel => exact ⟨c, swp m (f + r) (f + c), rfl, ⟨by omega, by omega⟩, D2.out, .swap P.out (by omega) (by omega) (by omega) (by omega) (by have := DL.out; omega), sift_step SI.out hr.1 hcc hch (by have := DL.out; omega) hbest hlt, ((OD.out.trans (only_drew g _)).trans (Only.set g (f + r) _ _)).trans (Only.set g (f + c) _ _)⟩
            case measure => simp [intOf]; omega
          refine ready_val (arR rfl) rfl (.int .u64 (m.getD (f + r) 0)) _ (exec_load_num (.tmp 71) rfl g (f + r) (m.getD (f + r) 0) rfl (D4.out.cell (by have := D4.out.len; omega))) ⟨trivial, ?_⟩ AllReadyH.nil
          try simp only [Act.put, stA, stZ, stS]
          refine rdy [13] ?_
          refine ready_val (arR rfl) rfl (.int .u64 (m.getD (f + c) 0)) _ (exec_load_num (.tmp 65) rfl g (f + c) (m.getD (f + c) 0) rfl (D4.out.cell (by have := D4.out.len; omega))) ⟨trivial, ?_⟩ AllReadyH.nil
          try simp only [Act.put, stA, stZ, stS]
          refine tkv 20 (.pointer (some ⟨g, (f + r), none⟩)) rfl (fun W hW => exec_ixg Tryz.underlying24 (.tmp 53) (.tmp 56) rfl g n cap (f + r) ((f + r : Nat) : Int) rfl rfl (by omega) (by omega)) trivial ?_; try simp only [Act.put, stA, stZ, stS]
          refine rdy [21] ?_
          refine ready_skip (arR rfl) rfl _ (exec_store_num (.tmp 73) (.tmp 66) rfl g (f + r) (m.getD (f + c) 0) (.int .u64 (m.getD (f + r) 0)) rfl rfl (D4.out.cell (by have := D4.out.len; omega)) (D4.out.fz (f + r))) ⟨trivial, ?_⟩ AllReadyH.nil
          have D1 := Lib.hid (D4.out.set (f + r) (m.getD (f + c) 0) (D4.out.ok.at_ (f + c)))
          skip
          try simp only [Act.put]
          refine tkv 22 (.pointer (some ⟨g, (f + c), none⟩)) rfl (fun W hW => exec_ixg Tryz.underlying24 (.tmp 57) (.tmp 60) rfl g n cap (f + c) ((f + c : Nat) : Int) rfl rfl (by omega) (by omega)) trivial ?_; try simp only [Act.put, stA, stZ, stS]
          refine rdy [23] ?_
          refine ready_skip (arR rfl) rfl _ (exec_store_num (.tmp 74) (.tmp 72) rfl g (f + c) (m.getD (f + r) 0) (.int .u64 ((m.set (f + r) (m.getD (f + c) 0)).getD (f + c) 0)) rfl rfl (D1.out.cell (by have := D1.out.len; omega)) (D1.out.fz (f + c))) ⟨trivial, ?_⟩ AllReadyH.nil
          have D2 := Lib.hid (D1.out.set (f + c) (m.getD (f + r) 0) (D4.out.ok.at_ (f + r)))
          try simp only [Act.put]
          refine wpAnyH_done (by kernel_rfl) ?_ _
          refine NoPanic.normal ?_
          go_wp2_with fail
          go_roundw
          case rel => exact ⟨c, swp m (f + r) (f + c), rfl, ⟨by omega, by omega⟩, D2.out, .swap P.out (by omega) (by omega) (by omega) (by omega) (by have := DL.out; omega), sift_step SI.out hr.1 hcc hch (by have := DL.out; omega) hbest hlt, ((OD.out.trans (only_drew g _)).trans (Only.set g (f + r) _ _)).trans (Only.set g (f + c) _ _)⟩
          case measure => simp [intOf]; omega
        · have HC5 := Lib.hid (decide_eq_false hlt)
          refine wp_region_noPanic ?_
          refine wp_region_held_drew (S := fun W => Below wd.heap.size wd W) (by kernel_rfl) S0.out (fun _ => ?_)
          refine tkm 0 rfl S0.out ?_; try simp only [Act.put, stA, stZ, stS]
          refine tkm 1 rfl S0.out ?_; try simp only [Act.put, stA, stZ, stS]
          refine tkm 2 rfl S0.out ?_; try simp only [Act.put, stA, stZ, stS]
          refine tkv 3 (.int .i64 ((f + r : Nat) : Int)) rfl (fun W hW => exec_addn (.tmp 40) (.tmp 41) rfl (f : Int) (r : Int) ((f + r : Nat) : Int) rfl rfl (by omega) (by omega)) S0.out ?_; try simp only [Act.put, stA, stZ, stS]
          refine tkv 4 (.pointer (some ⟨g, (f + r), none⟩)) rfl (fun W hW => exec_ixg Tryz.underlying24 (.tmp 39) (.tmp 42) rfl g n cap (f + r) ((f + r : Nat) : Int) rfl rfl (by omega) (by omega)) S0.out ?_; try simp only [Act.put, stA, stZ, stS]
          refine tkv 5 (.int .u64 (m.getD (f + r) 0)) rfl (fun W hW => exec_load_num (.tmp 43) rfl g (f + r) (m.getD (f + r) 0) rfl (OwnN.cell (DW.out.below hW) (by have := DW.out.len; omega))) S0.out ?_; try simp only [Act.put, stA, stZ, stS]
          refine tkm 6 rfl S0.out ?_; try simp only [Act.put, stA, stZ, stS]
          refine tkm 7 rfl S0.out ?_; try simp only [Act.put, stA, stZ, stS]
          refine tkm 8 rfl S0.out ?_; try simp only [Act.put, stA, stZ, stS]
          refine tkv 9 (.int .i64 ((f + c : Nat) : Int)) rfl (fun W hW => exec_addn (.tmp 46) (.tmp 47) rfl (f : Int) (c : Int) ((f + c : Nat) : Int) rfl rfl (by omega) (by omega)) S0.out ?_; try simp only [Act.put, stA, stZ, stS]
          refine tkv 10 (.pointer (some ⟨g, (f + c), none⟩)) rfl (fun W hW => exec_ixg Tryz.underlying24 (.tmp 45) (.tmp 48) rfl g n cap (f + c) ((f + c : Nat) : Int) rfl rfl (by omega) (by omega)) S0.out ?_; try simp only [Act.put, stA, stZ, stS]
          refine tkv 11 (.int .u64 (m.getD (f + c) 0)) rfl (fun W hW => exec_load_num (.tmp 49) rfl g (f + c) (m.getD (f + c) 0) rfl (OwnN.cell (DW.out.below hW) (by have := DW.out.len; omega))) S0.out ?_; try simp only [Act.put, stA, stZ, stS]
          refine rdy [12] ?_
          refine AllReadyH.cons (arR rfl) (fun K hK => ?_) AllReadyH.nil
          go_simp
          refine (less16_is _ _ false _ (Lib.hid (HC5.out))).mono ?_
          rintro e wl ⟨rfl, rfl⟩
          go_wp2_with fail
          refine hK.out _ _ S0.out (fun _ => ?_)
          clear hK K
          try simp only [Act.put, stA, stZ, stS]
          refine tkm 13 rfl S0.out ?_; try simp only [Act.put, stA, stZ, stS]
          refine wpAnyH_done (by kernel_rfl) ?_ _
          refine NoPanic.normal ?_
          go_wp2_with fail
          refine bodyPost_ret (results_none rfl _ _ _) rfl ?_
          exact ⟨rfl, OD.out, m, D3.out, P.out, sift_end SI.out (fun d hd hdh => Int.le_trans (hbest d hd hdh) (by omega))⟩
end Go.Proofs.YtnpbmihbmilkbaaGreat
