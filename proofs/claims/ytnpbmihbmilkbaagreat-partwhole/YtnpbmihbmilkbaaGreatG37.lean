/- slices.heapSortOrdered at uint16. Written by wip/tools/srtH_r17.py. slices.reverseRangeOrdered, order2Ordered, medianOrdered, medianAdjacentOrdered and choosePivotOrdered at uint16. Written by wip/tools/srtP_r17.py. -/
import Derived.Test.YtnpbmihbmilkbaaGreatG01
import Derived.Test.YtnpbmihbmilkbaaGreatG36
import Derived.Test.YtnpbmihbmilkbaaGreatG32
namespace Go.Proofs.YtnpbmihbmilkbaaGreat
open Go.RowKit
theorem half_eq (hi k0 : Nat) (h : k0 = (hi - 1) / 2) : ((hi : Int) - 1).tdiv 2 = ((k0 + 1 : Nat) : Int) - 1 := by
  subst h
  cases hi with
  | zero => decide
  | succ n =>
    rw [Int.tdiv_eq_ediv_of_nonneg (by omega)]
    omega
theorem sift0_is (B g n cap f k : Nat) (l : List Int) (w : World) (h : OwnN w B (.slice (some ⟨g, 0, none⟩) n cap) l) (hf : f + (k - 1) ≤ n) (hn : n ≤ 10000) (hk : 1 ≤ k) (hp : HpF l f 1 (k - 1)) :
    Calls Tryz.prog 106 #[(.slice (some ⟨g, 0, none⟩) n cap), .int .i64 0, .int .i64 ((k : Int) - 1), .int .i64 (f : Int)] w (GivesS B g n cap f (f + (k - 1)) l w fun m => HpF m f 0 (k - 1)) := by
  have e : ((k : Int) - 1) = ((k - 1 : Nat) : Int) := by omega
  rw [e]
  exact sift_is B g n cap f 0 (k - 1) l w h hf hn (Nat.zero_le _) hp
set_option maxRecDepth 100000 in
set_option maxHeartbeats 2000000 in
theorem heap_is (B g n cap a b : Nat) (l : List Int) (w : World) (h : OwnN w B (.slice (some ⟨g, 0, none⟩) n cap) l) (hb : b ≤ n) (hn : n ≤ 10000) (hab : a ≤ b) :
    Calls Tryz.prog 75 #[(.slice (some ⟨g, 0, none⟩) n cap), .int .i64 (a : Int), .int .i64 (b : Int)] w (GivesS B g n cap a b l w fun m => Sd m a b) := by
  have H := Lib.hid h
  clear h
  obtain ⟨hi, hhi⟩ : ∃ z, z = b - a := ⟨_, rfl⟩
  have HI := Lib.hid hhi
  obtain ⟨k0, hk0⟩ : ∃ z, z = (hi - 1) / 2 := ⟨_, rfl⟩
  have K0 := Lib.hid hk0
  have hkb : k0 ≤ 10000 ∧ hi ≤ 10000 := by omega
  clear hhi hk0
  go_enter Tryz.func75, Tryz.ntmps75
  go_wp2_with (first
    | (refine wpList_val rfl _ (exec_subn _ _ rfl (b : Int) (a : Int) (hi : Int) rfl rfl (by have := HI.out; omega) (by have := HI.out; omega)) ?_)
    | (refine wpList_val rfl _ (exec_subn _ _ rfl (hi : Int) 1 ((hi : Int) - 1) rfl rfl rfl (by have := HI.out; omega)) ?_)
    | (refine wpList_val rfl _ (exec_half _ rfl ((hi : Int) - 1) (((k0 + 1 : Nat) : Int) - 1) rfl (half_eq hi k0 K0.out) (by have := HI.out; have := K0.out; omega)) ?_))
  go_loopw [9] (fun i wr => ∃ (k : Nat) (m : List Int), i = .int .i64 ((k : Int) - 1) ∧ k ≤ k0 + 1 ∧ OwnN wr B (.slice (some ⟨g, 0, none⟩) n cap) m ∧ Per a b l m ∧ HpF m a k hi ∧ Only g w wr) (fun i _ => (intOf i + 1).toNat)
  case atStart => exact ⟨k0 + 1, l, by simp, Nat.le_refl _, H.out, .refl l, hp_none (by have := K0.out; omega), Only.refl g w⟩
  case round =>
    obtain ⟨k, m, rfl, hk, hm, hpp, hs, ho⟩ := hrel
    have D := Lib.hid hm
    have P := Lib.hid hpp
    have HP := Lib.hid hs
    have OO := Lib.hid ho
    have DL := Lib.hid hm.len
    clear hm hpp hs ho
    by_cases hk1 : 1 ≤ k
    · have hg : decide ((0 : Int) ≤ (k : Int) - 1) = true := decide_eq_true (by omega)
      go_wp2_with (refine wpList_val rfl _ (exec_ge _ _ rfl ((k : Int) - 1) 0 true rfl rfl hg) ?_)
      have HCAST := Lib.hid (show ((k : Int) - 1) = ((k - 1 : Nat) : Int) by omega)
      refine (show Calls Tryz.prog 106 #[(.slice (some ⟨g, 0, none⟩) n cap), .int .i64 ((k : Int) - 1), .int .i64 (hi : Int), .int .i64 (a : Int)] wr (GivesS B g n cap a (a + hi) m wr fun m => HpF m a (k - 1) hi) by
        rw [HCAST.out]
        exact sift_is B g n cap a (k - 1) hi m wr D.out (by have := HI.out; omega) hn (by have := K0.out; omega) (by rw [show k - 1 + 1 = k by omega]; exact HP.out)).mono ?_
      rintro e w3 ⟨rfl, o3, m3, d3, p3, r3⟩
      have P3 := Lib.hid p3
      have R3 := Lib.hid r3
      have D3 := Lib.hid d3
      have O3 := Lib.hid o3
      clear p3 r3 d3 o3
      go_wp2_with (refine wpList_val rfl _ (exec_subn _ _ rfl ((k : Int) - 1) 1 (((k - 1 : Nat) : Int) - 1) rfl rfl (by omega) (by omega)) ?_)
      go_roundw
      case rel => exact ⟨k - 1, m3, rfl, by omega, D3.out, P.out.trans (P3.out.mono (Nat.le_refl _) (by have := HI.out; omega) (by have := DL.out; omega)), R3.out, OO.out.trans O3.out⟩
      case measure => simp [intOf]; omega
    · have hg : decide ((0 : Int) ≤ (k : Int) - 1) = false := decide_eq_false (by omega)
      have HP0 := Lib.hid (show HpF m a 0 hi by have := HP.out; rwa [show k = 0 by omega] at this)
      go_wp2_with (first
        | (refine wpList_val rfl _ (exec_ge _ _ rfl ((k : Int) - 1) 0 false rfl rfl hg) ?_)
        | (refine wpList_val rfl _ (exec_subn _ _ rfl (hi : Int) 1 ((hi : Int) - 1) rfl rfl rfl (by have := HI.out; omega)) ?_))
      clear hg
      go_loopw [10] (fun i wr => ∃ (k : Nat) (m : List Int), i = .int .i64 ((k : Int) - 1) ∧ k ≤ hi ∧ OwnN wr B (.slice (some ⟨g, 0, none⟩) n cap) m ∧ Per a b l m ∧ HsI m a k hi ∧ Only g w wr) (fun i _ => (intOf i + 1).toNat)
      case atStart => exact ⟨hi, m, rfl, Nat.le_refl _, D.out, P.out, hs_start HP0.out, OO.out⟩
      case round =>
        obtain ⟨k, m, rfl, hk, hm, hpp, hs, ho⟩ := hrel
        have D := Lib.hid hm
        have P := Lib.hid hpp
        have HS := Lib.hid hs
        have OO := Lib.hid ho
        have DL := Lib.hid hm.len
        clear hm hpp hs ho
        have hHI : a + hi ≤ b ∧ b ≤ a + hi := by have := HI.out; omega
        by_cases hk1 : 1 ≤ k
        · have hg : decide ((0 : Int) ≤ (k : Int) - 1) = true := decide_eq_true (by omega)
          have HK := Lib.hid (show HsI m a (k - 1 + 1) hi by have := HS.out; rwa [show k = k - 1 + 1 by omega] at this)
          have E1 := Lib.hid (D.out.below (below_drew (Below.refl _ _)))
          go_wp2_with (refine wpList_val rfl _ (exec_ge _ _ rfl ((k : Int) - 1) 0 true rfl rfl hg) ?_)
          clear hg
          refine wp_region_noPanic ?_
          refine wp_region_held_drew (S := fun _ => True) (by kernel_rfl) trivial (fun _ => ?_)
          refine tkm 0 rfl trivial ?_; try simp only [Act.put, stA, stZ, stS]
          refine tkm 1 rfl trivial ?_; try simp only [Act.put, stA, stZ, stS]
          refine tkm 2 rfl trivial ?_; try simp only [Act.put, stA, stZ, stS]
          refine tkm 3 rfl trivial ?_; try simp only [Act.put, stA, stZ, stS]
          refine tkm 4 rfl trivial ?_; try simp only [Act.put, stA, stZ, stS]
          refine tkv 5 (.int .i64 ((a + (k - 1) : Nat) : Int)) rfl (fun W hW => exec_addn (.tmp 36) (.tmp 37) rfl (a : Int) ((k : Int) - 1) ((a + (k - 1) : Nat) : Int) rfl rfl (by omega) (by omega)) trivial ?_; try simp only [Act.put, stA, stZ, stS]
          refine tkm 6 rfl trivial ?_; try simp only [Act.put, stA, stZ, stS]
          refine tkm 7 rfl trivial ?_; try simp only [Act.put, stA, stZ, stS]
          refine tkm 8 rfl trivial ?_; try simp only [Act.put, stA, stZ, stS]
          refine tkv 9 (.int .i64 ((a + (k - 1) : Nat) : Int)) rfl (fun W hW => exec_addn (.tmp 40) (.tmp 41) rfl (a : Int) ((k : Int) - 1) ((a + (k - 1) : Nat) : Int) rfl rfl (by omega) (by omega)) trivial ?_; try simp only [Act.put, stA, stZ, stS]
          refine tkv 10 (.pointer (some ⟨g, (a + (k - 1)), none⟩)) rfl (fun W hW => exec_ixg Tryz.underlying24 (.tmp 39) (.tmp 42) rfl g n cap (a + (k - 1)) ((a + (k - 1) : Nat) : Int) rfl rfl (by omega) (by omega)) trivial ?_; try simp only [Act.put, stA, stZ, stS]
          refine tkm 12 rfl trivial ?_; try simp only [Act.put, stA, stZ, stS]
          refine tkm 13 rfl trivial ?_; try simp only [Act.put, stA, stZ, stS]
          refine tkv 14 (.pointer (some ⟨g, a, none⟩)) rfl (fun W hW => exec_ixg Tryz.underlying24 (.tmp 45) (.tmp 46) rfl g n cap a (a : Int) rfl rfl (by omega) (by omega)) trivial ?_; try simp only [Act.put, stA, stZ, stS]
          refine rdy [11, 15] ?_
          refine ready_val (arR rfl) rfl (.int .u64 (m.getD (a + (k - 1)) 0)) _ (exec_load_num (.tmp 43) rfl g (a + (k - 1)) (m.getD (a + (k - 1)) 0) rfl (E1.out.cell (by have := E1.out.len; omega))) ⟨trivial, ?_⟩ ?_
          · try simp only [Act.put, stA, stZ, stS]
            refine rdy [15] ?_
            refine ready_val (arR rfl) rfl (.int .u64 (m.getD a 0)) _ (exec_load_num (.tmp 47) rfl g a (m.getD a 0) rfl (E1.out.cell (by have := E1.out.len; omega))) ⟨trivial, ?_⟩ AllReadyH.nil
            try simp only [Act.put, stA, stZ, stS]
            refine tkv 16 (.pointer (some ⟨g, a, none⟩)) rfl (fun W hW => exec_ixg Tryz.underlying24 (.tmp 33) (.tmp 34) rfl g n cap a (a : Int) rfl rfl (by omega) (by omega)) trivial ?_; try simp only [Act.put, stA, stZ, stS]
            refine rdy [17] ?_
            refine ready_skip (arR rfl) rfl _ (exec_store_num (.tmp 49) (.tmp 44) rfl g a (m.getD (a + (k - 1)) 0) (.int .u64 (m.getD a 0)) rfl rfl (E1.out.cell (by have := E1.out.len; omega)) (E1.out.fz a)) ⟨trivial, ?_⟩ AllReadyH.nil
            have D1 := Lib.hid (E1.out.set a (m.getD (a + (k - 1)) 0) (E1.out.ok.at_ (a + (k - 1))))
            skip
            try simp only [Act.put]
            refine tkv 18 (.pointer (some ⟨g, (a + (k - 1)), none⟩)) rfl (fun W hW => exec_ixg Tryz.underlying24 (.tmp 35) (.tmp 38) rfl g n cap (a + (k - 1)) ((a + (k - 1) : Nat) : Int) rfl rfl (by omega) (by omega)) trivial ?_; try simp only [Act.put, stA, stZ, stS]
            refine rdy [19] ?_
            refine ready_skip (arR rfl) rfl _ (exec_store_num (.tmp 50) (.tmp 48) rfl g (a + (k - 1)) (m.getD a 0) (.int .u64 ((m.set a (m.getD (a + (k - 1)) 0)).getD (a + (k - 1)) 0)) rfl rfl (D1.out.cell (by have := D1.out.len; omega)) (D1.out.fz (a + (k - 1)))) ⟨trivial, ?_⟩ AllReadyH.nil
            have D2 := Lib.hid (D1.out.set (a + (k - 1)) (m.getD a 0) (E1.out.ok.at_ a))
            try simp only [Act.put]
            refine wpAnyH_done (by kernel_rfl) ?_ _
            refine NoPanic.normal ?_
            go_wp2_with fail
            refine (sift0_is B g n cap a k (swp m a (a + (k - 1))) _ D2.out (by omega) hn (by omega) (hs_mid HK.out (by have := DL.out; omega) (by omega))).mono ?_
            rintro e w3 ⟨rfl, o3, m3, d3, p3, r3⟩
            have P3 := Lib.hid p3
            have R3 := Lib.hid r3
            have D3 := Lib.hid d3
            have O3 := Lib.hid o3
            clear p3 r3 d3 o3
            go_wp2_with (refine wpList_val rfl _ (exec_subn _ _ rfl ((k : Int) - 1) 1 (((k - 1 : Nat) : Int) - 1) rfl rfl (by omega) (by omega)) ?_)
            go_roundw
            case rel => exact ⟨k - 1, m3, rfl, by omega, D3.out, (Per.swap (i := a) (j := a + (k - 1)) P.out (by omega) (by omega) (by omega) (by omega) (by have := DL.out; omega)).trans (P3.out.mono (Nat.le_refl _) (by omega) (by rw [swp_len]; have := DL.out; omega)), hs_step HK.out (by have := DL.out; omega) (by omega) P3.out R3.out, ((((OO.out.trans (only_drew g _)).trans (Only.set g a _ _)).trans (Only.set g (a + (k - 1)) _ _))).trans O3.out⟩
            case measure => simp [intOf]; omega
          refine ready_val (arR rfl) rfl (.int .u64 (m.getD a 0)) _ (exec_load_num (.tmp 47) rfl g a (m.getD a 0) rfl (E1.out.cell (by have := E1.out.len; omega))) ⟨trivial, ?_⟩ AllReadyH.nil
          try simp only [Act.put, stA, stZ, stS]
          refine rdy [11] ?_
          refine ready_val (arR rfl) rfl (.int .u64 (m.getD (a + (k - 1)) 0)) _ (exec_load_num (.tmp 43) rfl g (a + (k - 1)) (m.getD (a + (k - 1)) 0) rfl (E1.out.cell (by have := E1.out.len; omega))) ⟨trivial, ?_⟩ AllReadyH.nil
          try simp only [Act.put, stA, stZ, stS]
          refine tkv 16 (.pointer (some ⟨g, a, none⟩)) rfl (fun W hW => exec_ixg Tryz.underlying24 (.tmp 33) (.tmp 34) rfl g n cap a (a : Int) rfl rfl (by omega) (by omega)) trivial ?_; try simp only [Act.put, stA, stZ, stS]
          refine rdy [17] ?_
          refine ready_skip (arR rfl) rfl _ (exec_store_num (.tmp 49) (.tmp 44) rfl g a (m.getD (a + (k - 1)) 0) (.int .u64 (m.getD a 0)) rfl rfl (E1.out.cell (by have := E1.out.len; omega)) (E1.out.fz a)) ⟨trivial, ?_⟩ AllReadyH.nil
          have D1 := Lib.hid (E1.out.set a (m.getD (a + (k - 1)) 0) (E1.out.ok.at_ (a + (k - 1))))
          skip
          try simp only [Act.put]
          refine tkv 18 (.pointer (some ⟨g, (a + (k - 1)), none⟩)) rfl (fun W hW => exec_ixg Tryz.underlying24 (.tmp 35) (.tmp 38) rfl g n cap (a + (k - 1)) ((a + (k - 1) : Nat) : Int) rfl rfl (by omega) (by omega)) trivial ?_; try simp only [Act.put, stA, stZ, stS]
          refine rdy [19] ?_
          refine ready_skip (arR rfl) rfl _ (exec_store_num (.tmp 50) (.tmp 48) rfl g (a + (k - 1)) (m.getD a 0) (.int .u64 ((m.set a (m.getD (a + (k - 1)) 0)).getD (a + (k - 1)) 0)) rfl rfl (D1.out.cell (by have := D1.out.len; omega)) (D1.out.fz (a + (k - 1)))) ⟨trivial, ?_⟩ AllReadyH.nil
          have D2 := Lib.hid (D1.out.set (a + (k - 1)) (m.getD a 0) (E1.out.ok.at_ a))
          try simp only [Act.put]
          refine wpAnyH_done (by kernel_rfl) ?_ _
          refine NoPanic.normal ?_
          go_wp2_with fail
          refine (sift0_is B g n cap a k (swp m a (a + (k - 1))) _ D2.out (by omega) hn (by omega) (hs_mid HK.out (by have := DL.out; omega) (by omega))).mono ?_
          rintro e w3 ⟨rfl, o3, m3, d3, p3, r3⟩
          have P3 := Lib.hid p3
          have R3 := Lib.hid r3
          have D3 := Lib.hid d3
          have O3 := Lib.hid o3
          clear p3 r3 d3 o3
          go_wp2_with (refine wpList_val rfl _ (exec_subn _ _ rfl ((k : Int) - 1) 1 (((k - 1 : Nat) : Int) - 1) rfl rfl (by omega) (by omega)) ?_)
          go_roundw
          case rel => exact ⟨k - 1, m3, rfl, by omega, D3.out, (Per.swap (i := a) (j := a + (k - 1)) P.out (by omega) (by omega) (by omega) (by omega) (by have := DL.out; omega)).trans (P3.out.mono (Nat.le_refl _) (by omega) (by rw [swp_len]; have := DL.out; omega)), hs_step HK.out (by have := DL.out; omega) (by omega) P3.out R3.out, ((((OO.out.trans (only_drew g _)).trans (Only.set g a _ _)).trans (Only.set g (a + (k - 1)) _ _))).trans O3.out⟩
          case measure => simp [intOf]; omega
        · have hg : decide ((0 : Int) ≤ (k : Int) - 1) = false := decide_eq_false (by omega)
          have HS0 := Lib.hid (show HsI m a 0 hi by have := HS.out; rwa [show k = 0 by omega] at this)
          go_wp2_with (refine wpList_val rfl _ (exec_ge _ _ rfl ((k : Int) - 1) 0 false rfl rfl hg) ?_)
          refine bodyPost_ret (results_none rfl _ _ _) rfl ?_
          exact ⟨rfl, OO.out, m, D.out, P.out, by have := HS0.out.sd; rwa [Nat.add_zero, show a + hi = b by omega] at this⟩
end Go.Proofs.YtnpbmihbmilkbaaGreat
namespace Go.Proofs.YtnpbmihbmilkbaaGreat
open Go.RowKit
theorem exec_quo4 {o : Oper} {a : Act} {w : World} (x : Operand) (ho : o.op = .binOp .quo 3 x (.const (.int .i64 4)) 3) (p r : Nat) (hx : a.eval x = .int .i64 (p : Int)) (hr : r = p / 4) (hb : p ≤ 100000) :
    (execOp a.eval o).run Tryz.prog w = .ok (.value (.int .i64 (r : Int))) w := by
  have h : (p : Int) / 4 = (r : Int) := by omega
  have H := Lib.hid h
  clear h hr
  unfold execOp
  simp only [ho, hx]
  go_simp
  rw [H.out]
  exact wrap_small (by have := H.out; omega) (by have := H.out; omega)
set_option maxRecDepth 100000 in
set_option maxHeartbeats 4000000 in
theorem reverse_is (B g n cap a b : Nat) (l : List Int) (w : World) (h : OwnN w B (.slice (some ⟨g, 0, none⟩) n cap) l) (hb : b ≤ n) (hn : n ≤ 10000) (hab : a ≤ b) :
    Calls Tryz.prog 78 #[(.slice (some ⟨g, 0, none⟩) n cap), .int .i64 (a : Int), .int .i64 (b : Int)] w (GivesS B g n cap a b l w fun _ => True) := by
  have H := Lib.hid h
  clear h
  go_enter Tryz.func78, Tryz.ntmps78
  go_wp2_with (refine wpList_val rfl _ (exec_subn _ _ rfl (b : Int) 1 ((b : Int) - 1) rfl rfl rfl (by omega)) ?_)
  go_loopw [6, 7] (fun i j wr => ∃ (p q : Nat) (m : List Int), i = .int .i64 (p : Int) ∧ j = .int .i64 ((q : Int) - 1) ∧ (a ≤ p ∧ q ≤ b ∧ p ≤ b ∧ a ≤ q) ∧ OwnN wr B (.slice (some ⟨g, 0, none⟩) n cap) m ∧ Per a b l m ∧ Only g w wr) (fun i j _ => (intOf j - intOf i + 1).toNat)
  case atStart => exact ⟨a, b, l, rfl, rfl, by omega, H.out, .refl l, Only.refl g w⟩
  case round =>
    obtain ⟨i, j, m, rfl, rfl, hij, hm, hpp, ho⟩ := hrel
    have D := Lib.hid hm
    have P := Lib.hid hpp
    have OO := Lib.hid ho
    have DL := Lib.hid hm.len
    clear hm hpp ho
    by_cases hlt : i + 1 < j
    · have hg : decide ((i : Int) < (j : Int) - 1) = true := decide_eq_true (by omega)
      have E1 := Lib.hid (D.out.below (below_drew (Below.refl _ _)))
      go_wp2_with (refine wpList_val rfl _ (exec_lt _ _ rfl (i : Int) ((j : Int) - 1) true rfl rfl hg) ?_)
      clear hg
      refine wp_region_noPanic ?_
      refine wp_region_held_drew (S := fun _ => True) (by kernel_rfl) trivial (fun _ => ?_)
      refine tkm 0 rfl trivial ?_; try simp only [Act.put, stA, stZ, stS]
      refine tkm 1 rfl trivial ?_; try simp only [Act.put, stA, stZ, stS]
      refine tkm 2 rfl trivial ?_; try simp only [Act.put, stA, stZ, stS]
      refine tkm 3 rfl trivial ?_; try simp only [Act.put, stA, stZ, stS]
      refine tkm 4 rfl trivial ?_; try simp only [Act.put, stA, stZ, stS]
      refine tkm 5 rfl trivial ?_; try simp only [Act.put, stA, stZ, stS]
      refine tkv 6 (.pointer (some ⟨g, (j - 1), none⟩)) rfl (fun W hW => exec_ixg Tryz.underlying24 (.tmp 18) (.tmp 19) rfl g n cap (j - 1) ((j : Int) - 1) rfl rfl (by omega) (by omega)) trivial ?_; try simp only [Act.put, stA, stZ, stS]
      refine tkm 8 rfl trivial ?_; try simp only [Act.put, stA, stZ, stS]
      refine tkm 9 rfl trivial ?_; try simp only [Act.put, stA, stZ, stS]
      refine tkv 10 (.pointer (some ⟨g, i, none⟩)) rfl (fun W hW => exec_ixg Tryz.underlying24 (.tmp 22) (.tmp 23) rfl g n cap i (i : Int) rfl rfl (by omega) (by omega)) trivial ?_; try simp only [Act.put, stA, stZ, stS]
      refine rdy [7, 11] ?_
      refine ready_val (arR rfl) rfl (.int .u64 (m.getD (j - 1) 0)) _ (exec_load_num (.tmp 20) rfl g (j - 1) (m.getD (j - 1) 0) rfl (E1.out.cell (by have := E1.out.len; omega))) ⟨trivial, ?_⟩ ?_
      · try simp only [Act.put, stA, stZ, stS]
        refine rdy [11] ?_
        refine ready_val (arR rfl) rfl (.int .u64 (m.getD i 0)) _ (exec_load_num (.tmp 24) rfl g i (m.getD i 0) rfl (E1.out.cell (by have := E1.out.len; omega))) ⟨trivial, ?_⟩ AllReadyH.nil
        try simp only [Act.put, stA, stZ, stS]
        refine tkv 12 (.pointer (some ⟨g, i, none⟩)) rfl (fun W hW => exec_ixg Tryz.underlying24 (.tmp 14) (.tmp 15) rfl g n cap i (i : Int) rfl rfl (by omega) (by omega)) trivial ?_; try simp only [Act.put, stA, stZ, stS]
        refine rdy [13] ?_
        refine ready_skip (arR rfl) rfl _ (exec_store_num (.tmp 26) (.tmp 21) rfl g i (m.getD (j - 1) 0) (.int .u64 (m.getD i 0)) rfl rfl (E1.out.cell (by have := E1.out.len; omega)) (E1.out.fz i)) ⟨trivial, ?_⟩ AllReadyH.nil
        have D1 := Lib.hid (E1.out.set i (m.getD (j - 1) 0) (E1.out.ok.at_ (j - 1)))
        skip
        try simp only [Act.put]
        refine tkv 14 (.pointer (some ⟨g, (j - 1), none⟩)) rfl (fun W hW => exec_ixg Tryz.underlying24 (.tmp 16) (.tmp 17) rfl g n cap (j - 1) ((j : Int) - 1) rfl rfl (by omega) (by omega)) trivial ?_; try simp only [Act.put, stA, stZ, stS]
        refine rdy [15] ?_
        refine ready_skip (arR rfl) rfl _ (exec_store_num (.tmp 27) (.tmp 25) rfl g (j - 1) (m.getD i 0) (.int .u64 ((m.set i (m.getD (j - 1) 0)).getD (j - 1) 0)) rfl rfl (D1.out.cell (by have := D1.out.len; omega)) (D1.out.fz (j - 1))) ⟨trivial, ?_⟩ AllReadyH.nil
        have D2 := Lib.hid (D1.out.set (j - 1) (m.getD i 0) (E1.out.ok.at_ i))
        try simp only [Act.put]
        refine wpAnyH_done (by kernel_rfl) ?_ _
        refine NoPanic.normal ?_
        go_wp2_with (first
          | (refine wpList_val rfl _ (exec_addn _ _ rfl (i : Int) 1 ((i + 1 : Nat) : Int) rfl rfl (by omega) (by omega)) ?_)
          | (refine wpList_val rfl _ (exec_subn _ _ rfl ((j : Int) - 1) 1 (((j - 1 : Nat) : Int) - 1) rfl rfl (by omega) (by omega)) ?_))
        go_roundw
        case rel => exact ⟨i + 1, j - 1, swp m i (j - 1), rfl, rfl, by omega, D2.out, .swap P.out (by omega) (by omega) (by omega) (by omega) (by have := DL.out; omega), ((OO.out.trans (only_drew g _)).trans (Only.set g i _ _)).trans (Only.set g (j - 1) _ _)⟩
        case measure => simp [intOf]; omega
      refine ready_val (arR rfl) rfl (.int .u64 (m.getD i 0)) _ (exec_load_num (.tmp 24) rfl g i (m.getD i 0) rfl (E1.out.cell (by have := E1.out.len; omega))) ⟨trivial, ?_⟩ AllReadyH.nil
      try simp only [Act.put, stA, stZ, stS]
      refine rdy [7] ?_
      refine ready_val (arR rfl) rfl (.int .u64 (m.getD (j - 1) 0)) _ (exec_load_num (.tmp 20) rfl g (j - 1) (m.getD (j - 1) 0) rfl (E1.out.cell (by have := E1.out.len; omega))) ⟨trivial, ?_⟩ AllReadyH.nil
      try simp only [Act.put, stA, stZ, stS]
      refine tkv 12 (.pointer (some ⟨g, i, none⟩)) rfl (fun W hW => exec_ixg Tryz.underlying24 (.tmp 14) (.tmp 15) rfl g n cap i (i : Int) rfl rfl (by omega) (by omega)) trivial ?_; try simp only [Act.put, stA, stZ, stS]
      refine rdy [13] ?_
      refine ready_skip (arR rfl) rfl _ (exec_store_num (.tmp 26) (.tmp 21) rfl g i (m.getD (j - 1) 0) (.int .u64 (m.getD i 0)) rfl rfl (E1.out.cell (by have := E1.out.len; omega)) (E1.out.fz i)) ⟨trivial, ?_⟩ AllReadyH.nil
      have D1 := Lib.hid (E1.out.set i (m.getD (j - 1) 0) (E1.out.ok.at_ (j - 1)))
      skip
      try simp only [Act.put]
      refine tkv 14 (.pointer (some ⟨g, (j - 1), none⟩)) rfl (fun W hW => exec_ixg Tryz.underlying24 (.tmp 16) (.tmp 17) rfl g n cap (j - 1) ((j : Int) - 1) rfl rfl (by omega) (by omega)) trivial ?_; try simp only [Act.put, stA, stZ, stS]
      refine rdy [15] ?_
      refine ready_skip (arR rfl) rfl _ (exec_store_num (.tmp 27) (.tmp 25) rfl g (j - 1) (m.getD i 0) (.int .u64 ((m.set i (m.getD (j - 1) 0)).getD (j - 1) 0)) rfl rfl (D1.out.cell (by have := D1.out.len; omega)) (D1.out.fz (j - 1))) ⟨trivial, ?_⟩ AllReadyH.nil
      have D2 := Lib.hid (D1.out.set (j - 1) (m.getD i 0) (E1.out.ok.at_ i))
      try simp only [Act.put]
      refine wpAnyH_done (by kernel_rfl) ?_ _
      refine NoPanic.normal ?_
      go_wp2_with (first
        | (refine wpList_val rfl _ (exec_addn _ _ rfl (i : Int) 1 ((i + 1 : Nat) : Int) rfl rfl (by omega) (by omega)) ?_)
        | (refine wpList_val rfl _ (exec_subn _ _ rfl ((j : Int) - 1) 1 (((j - 1 : Nat) : Int) - 1) rfl rfl (by omega) (by omega)) ?_))
      go_roundw
      case rel => exact ⟨i + 1, j - 1, swp m i (j - 1), rfl, rfl, by omega, D2.out, .swap P.out (by omega) (by omega) (by omega) (by omega) (by have := DL.out; omega), ((OO.out.trans (only_drew g _)).trans (Only.set g i _ _)).trans (Only.set g (j - 1) _ _)⟩
      case measure => simp [intOf]; omega
    · have hg : decide ((i : Int) < (j : Int) - 1) = false := decide_eq_false (by omega)
      go_wp2_with (refine wpList_val rfl _ (exec_lt _ _ rfl (i : Int) ((j : Int) - 1) false rfl rfl hg) ?_)
      refine bodyPost_ret (results_none rfl _ _ _) rfl ?_
      exact ⟨rfl, OO.out, m, D.out, P.out, trivial⟩
def Cnt (w : World) (s : Nat) (k : Nat) : Prop := ∃ v : Int, Blk w s 3 [.int .i64 v] ∧ 0 ≤ v ∧ v ≤ k
theorem Cnt.below {w w' : World} {s k : Nat} (h : Cnt w s k) (hb : Below w.heap.size w w') : Cnt w' s k := by obtain ⟨v, h1, h2⟩ := h; exact ⟨v, h1.below hb, h2⟩
theorem Cnt.lt {w : World} {s k : Nat} (h : Cnt w s k) : s < w.heap.size := by obtain ⟨v, h1, _⟩ := h; exact h1.lt
theorem OwnN.onlyS {w w' : World} {B g n cap s : Nat} {l : List Int} (h : OwnN w B (.slice (some ⟨g, 0, none⟩) n cap) l) (ho : Only s w w') (hg : g ≠ s) : OwnN w' B (.slice (some ⟨g, 0, none⟩) n cap) l :=
  h.only ho fun k e => by simp [Value.ownBlock] at e; omega
set_option maxRecDepth 100000 in
set_option maxHeartbeats 4000000 in
theorem order2_is (B g n cap p q s k : Nat) (l : List Int) (w : World) (h : OwnN w B (.slice (some ⟨g, 0, none⟩) n cap) l) (hp : p < n) (hq : q < n) (hs : Cnt w s k) (hk : k ≤ 1000) :
    Calls Tryz.prog 127 #[(.slice (some ⟨g, 0, none⟩) n cap), .int .i64 (p : Int), .int .i64 (q : Int), .pointer (some ⟨s, 0, none⟩)] w fun e w' => (∃ x y : Nat, e = .returned (.tuple #[.int .i64 (x : Int), .int .i64 (y : Int)]) ∧ (x = p ∧ y = q ∨ x = q ∧ y = p)) ∧ Cnt w' s (k + 1) ∧ Only s w w' := by
  have D := Lib.hid h
  have DL := Lib.hid h.len
  obtain ⟨v, hv, v0, v1⟩ := hs
  have S0 := Lib.hid (show Below w.heap.size w w.drew from below_drew (Below.refl _ _))
  have O0 := Lib.hid (only_drew s w)
  have K0 := Lib.hid (hv.below S0.out)
  clear h
  by_cases hc : l.getD q 0 < l.getD p 0
  · have HC := Lib.hid (decide_eq_true hc)
    go_enter Tryz.func127, Tryz.ntmps127
    go_wp2_with fail
    refine wp_region_noPanic ?_
    refine wp_region_held_drew (S := fun W => Below w.heap.size w W) (by kernel_rfl) S0.out (fun _ => ?_)
    refine tkm 0 rfl S0.out ?_; try simp only [Act.put, stA, stZ, stS]
    refine tkm 1 rfl S0.out ?_; try simp only [Act.put, stA, stZ, stS]
    refine tkv 2 (.pointer (some ⟨g, q, none⟩)) rfl (fun W hW => exec_ixg Tryz.underlying24 (.tmp 10) (.tmp 11) rfl g n cap q (q : Int) rfl rfl (by omega) (by omega)) S0.out ?_; try simp only [Act.put, stA, stZ, stS]
    refine tkv 3 (.int .u64 (l.getD q 0)) rfl (fun W hW => exec_load_num (.tmp 12) rfl g q (l.getD q 0) rfl (OwnN.cell (D.out.below hW) (by have := D.out.len; omega))) S0.out ?_; try simp only [Act.put, stA, stZ, stS]
    refine tkm 4 rfl S0.out ?_; try simp only [Act.put, stA, stZ, stS]
    refine tkm 5 rfl S0.out ?_; try simp only [Act.put, stA, stZ, stS]
    refine tkv 6 (.pointer (some ⟨g, p, none⟩)) rfl (fun W hW => exec_ixg Tryz.underlying24 (.tmp 14) (.tmp 15) rfl g n cap p (p : Int) rfl rfl (by omega) (by omega)) S0.out ?_; try simp only [Act.put, stA, stZ, stS]
    refine tkv 7 (.int .u64 (l.getD p 0)) rfl (fun W hW => exec_load_num (.tmp 16) rfl g p (l.getD p 0) rfl (OwnN.cell (D.out.below hW) (by have := D.out.len; omega))) S0.out ?_; try simp only [Act.put, stA, stZ, stS]
    refine rdy [8] ?_
    refine AllReadyH.cons (arR rfl) (fun K hK => ?_) AllReadyH.nil
    go_simp
    refine (less16_is _ _ true _ (Lib.hid (HC.out))).mono ?_
    rintro e wl ⟨rfl, rfl⟩
    go_wp2_with fail
    refine hK.out _ _ S0.out (fun _ => ?_)
    clear hK K
    try simp only [Act.put, stA, stZ, stS]
    refine wpAnyH_done (by kernel_rfl) ?_ _
    refine NoPanic.normal ?_
    have c3 := K0.out.cell (i := 0) rfl
    go_wp2_with (first
      | (refine wpList_val rfl _ (exec_addn _ _ rfl v 1 (v + 1) rfl rfl rfl (by omega)) ?_)
      | (refine wpList_store_i Tryz.sizeOf3 rfl _ _ rfl s (.int .i64 v) (v + 1) rfl rfl K0.out ?_; intro w5 N5 O5))
    refine bodyPost_ret (results_tmp2 rfl _ _ _) rfl ?_
    exact ⟨⟨q, p, rfl, .inr ⟨rfl, rfl⟩⟩, ⟨v + 1, N5.out, by omega, by omega⟩, O0.out.trans O5.out⟩
  · have HC := Lib.hid (decide_eq_false hc)
    go_enter Tryz.func127, Tryz.ntmps127
    go_wp2_with fail
    refine wp_region_noPanic ?_
    refine wp_region_held_drew (S := fun W => Below w.heap.size w W) (by kernel_rfl) S0.out (fun _ => ?_)
    refine tkm 0 rfl S0.out ?_; try simp only [Act.put, stA, stZ, stS]
    refine tkm 1 rfl S0.out ?_; try simp only [Act.put, stA, stZ, stS]
    refine tkv 2 (.pointer (some ⟨g, q, none⟩)) rfl (fun W hW => exec_ixg Tryz.underlying24 (.tmp 10) (.tmp 11) rfl g n cap q (q : Int) rfl rfl (by omega) (by omega)) S0.out ?_; try simp only [Act.put, stA, stZ, stS]
    refine tkv 3 (.int .u64 (l.getD q 0)) rfl (fun W hW => exec_load_num (.tmp 12) rfl g q (l.getD q 0) rfl (OwnN.cell (D.out.below hW) (by have := D.out.len; omega))) S0.out ?_; try simp only [Act.put, stA, stZ, stS]
    refine tkm 4 rfl S0.out ?_; try simp only [Act.put, stA, stZ, stS]
    refine tkm 5 rfl S0.out ?_; try simp only [Act.put, stA, stZ, stS]
    refine tkv 6 (.pointer (some ⟨g, p, none⟩)) rfl (fun W hW => exec_ixg Tryz.underlying24 (.tmp 14) (.tmp 15) rfl g n cap p (p : Int) rfl rfl (by omega) (by omega)) S0.out ?_; try simp only [Act.put, stA, stZ, stS]
    refine tkv 7 (.int .u64 (l.getD p 0)) rfl (fun W hW => exec_load_num (.tmp 16) rfl g p (l.getD p 0) rfl (OwnN.cell (D.out.below hW) (by have := D.out.len; omega))) S0.out ?_; try simp only [Act.put, stA, stZ, stS]
    refine rdy [8] ?_
    refine AllReadyH.cons (arR rfl) (fun K hK => ?_) AllReadyH.nil
    go_simp
    refine (less16_is _ _ false _ (Lib.hid (HC.out))).mono ?_
    rintro e wl ⟨rfl, rfl⟩
    go_wp2_with fail
    refine hK.out _ _ S0.out (fun _ => ?_)
    clear hK K
    try simp only [Act.put, stA, stZ, stS]
    refine wpAnyH_done (by kernel_rfl) ?_ _
    refine NoPanic.normal ?_
    go_wp2_with fail
    refine bodyPost_ret (results_tmp2 rfl _ _ _) rfl ?_
    exact ⟨⟨p, q, rfl, .inl ⟨rfl, rfl⟩⟩, ⟨v, K0.out, by omega, by omega⟩, O0.out⟩
theorem order2_at (B g n cap p q s k : Nat) (l : List Int) (w : World) (h : OwnN w B (.slice (some ⟨g, 0, none⟩) n cap) l) (hp : p < n) (hq : q < n) (hs : Cnt w s k) (hk : k ≤ 1000) (hg : g ≠ s) :
    Calls Tryz.prog 127 #[(.slice (some ⟨g, 0, none⟩) n cap), .int .i64 (p : Int), .int .i64 (q : Int), .pointer (some ⟨s, 0, none⟩)] w fun e w' => (∃ x y : Nat, e = .returned (.tuple #[.int .i64 (x : Int), .int .i64 (y : Int)]) ∧ (x = p ∧ y = q ∨ x = q ∧ y = p)) ∧ (Cnt w' s (k + 1) ∧ OwnN w' B (.slice (some ⟨g, 0, none⟩) n cap) l) ∧ Only s w w' :=
  (order2_is B g n cap p q s k l w h hp hq hs hk).mono fun _ _ hh => ⟨hh.1, ⟨hh.2.1, h.onlyS hh.2.2 hg⟩, hh.2.2⟩
set_option maxRecDepth 100000 in
set_option maxHeartbeats 4000000 in
theorem median_is (B g n cap p q r s k : Nat) (l : List Int) (w : World) (h : OwnN w B (.slice (some ⟨g, 0, none⟩) n cap) l) (hp : p < n) (hq : q < n) (hr : r < n) (hs : Cnt w s k) (hk : k ≤ 900) (hg : g ≠ s) :
    Calls Tryz.prog 110 #[(.slice (some ⟨g, 0, none⟩) n cap), .int .i64 (p : Int), .int .i64 (q : Int), .int .i64 (r : Int), .pointer (some ⟨s, 0, none⟩)] w fun e w' => (∃ x : Nat, e = .returned (.int .i64 (x : Int)) ∧ (x = p ∨ x = q ∨ x = r)) ∧ (Cnt w' s (k + 3) ∧ OwnN w' B (.slice (some ⟨g, 0, none⟩) n cap) l) ∧ Only s w w' := by
  go_enter Tryz.func110, Tryz.ntmps110
  go_wp2_with fail
  refine (order2_at B g n cap p q s k l w h hp hq hs (by omega) hg).mono ?_
  rintro e w1 ⟨⟨x1, y1, rfl, e1⟩, ⟨s1, d1⟩, o1⟩
  have X1 := Lib.hid e1
  clear e1
  go_wp2_with fail
  refine (order2_at B g n cap y1 r s (k + 1) l w1 d1 (by have := X1.out; omega) hr s1 (by omega) hg).mono ?_
  rintro e w2 ⟨⟨x2, y2, rfl, e2⟩, ⟨s2, d2⟩, o2⟩
  have X2 := Lib.hid e2
  clear e2
  go_wp2_with fail
  refine (order2_at B g n cap x1 x2 s (k + 2) l w2 d2 (by have := X1.out; omega) (by have := X1.out; have := X2.out; omega) s2 (by omega) hg).mono ?_
  rintro e w3 ⟨⟨x3, y3, rfl, e3⟩, ⟨s3, d3⟩, o3⟩
  have X3 := Lib.hid e3
  clear e3
  go_wp2_with fail
  go_ret
  exact ⟨⟨y3, rfl, by have := X1.out; have := X2.out; have := X3.out; omega⟩, ⟨s3, d3⟩, (o1.trans o2).trans o3⟩
set_option maxRecDepth 100000 in
theorem adjacent_is (B g n cap p s k : Nat) (l : List Int) (w : World) (h : OwnN w B (.slice (some ⟨g, 0, none⟩) n cap) l) (hp : p + 1 < n) (hp0 : 1 ≤ p) (hn : n ≤ 10000) (hs : Cnt w s k) (hk : k ≤ 900) (hg : g ≠ s) :
    Calls Tryz.prog 109 #[(.slice (some ⟨g, 0, none⟩) n cap), .int .i64 (p : Int), .pointer (some ⟨s, 0, none⟩)] w fun e w' => (∃ x : Nat, e = .returned (.int .i64 (x : Int)) ∧ (x + 1 = p ∨ x = p ∨ x = p + 1)) ∧ (Cnt w' s (k + 3) ∧ OwnN w' B (.slice (some ⟨g, 0, none⟩) n cap) l) ∧ Only s w w' := by
  go_enter Tryz.func109, Tryz.ntmps109
  go_wp2_with (first
      | (refine wpList_val rfl _ (exec_subn _ _ rfl (p : Int) 1 ((p - 1 : Nat) : Int) rfl rfl (by omega) (by omega)) ?_)
      | (refine wpList_val rfl _ (exec_addn _ _ rfl (p : Int) 1 ((p + 1 : Nat) : Int) rfl rfl (by omega) (by omega)) ?_))
  refine (median_is B g n cap (p - 1) p (p + 1) s k l w h (by omega) (by omega) hp hs hk hg).mono ?_
  rintro e w1 ⟨⟨x1, rfl, e1⟩, h1⟩
  have X1 := Lib.hid e1
  clear e1
  go_wp2_with fail
  go_ret
  exact ⟨⟨x1, rfl, by have := X1.out; omega⟩, h1⟩
end Go.Proofs.YtnpbmihbmilkbaaGreat
