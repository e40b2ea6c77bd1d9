/- slices.partitionEqualOrdered at uint16. Written by wip/tools/srtE_r17.py. -/
import Derived.Test.YtnpbmihbmilkbaaGreatG01
import Derived.Test.YtnpbmihbmilkbaaGreatG32
import Derived.Deep.CutRange
import Derived.Deep.CutBlock
namespace Go.Proofs.YtnpbmihbmilkbaaGreat
open Go.RowKit
def GivesPe (B g n cap a b p : Nat) (l : List Int) (w : World) (e : Ending) (w' : World) : Prop :=
  ∃ (k : Nat) (m : List Int), e = .returned (.int .i64 (k : Int)) ∧ OwnN w' B (.slice (some ⟨g, 0, none⟩) n cap) m ∧ Per a b l m ∧ (a < k ∧ k ≤ b) ∧ (∀ q, a ≤ q → q < k → m.getD q 0 ≤ l.getD p 0) ∧ (∀ q, k ≤ q → q < b → l.getD p 0 < m.getD q 0) ∧ Only g w w'
theorem pe_up {m : List Int} {a k j : Nat} (hl : j ≤ m.length) (h1 : a + 1 ≤ k) (h2 : k + 1 < j) (hu : ∀ q, a + 1 ≤ q → q < k → m.getD q 0 ≤ m.getD a 0) (hj : m.getD (j - 1) 0 ≤ m.getD a 0) :
    ∀ q, a + 1 ≤ q → q < k + 1 → (swp m k (j - 1)).getD q 0 ≤ (swp m k (j - 1)).getD a 0 := fun q g1 g2 => by
  rw [swp_get (by omega) (by omega), swp_get (by omega) (by omega), if_neg (show ¬ a = j - 1 by omega), if_neg (show ¬ a = k by omega), if_neg (by omega)]
  split
  · exact hj
  · exact hu q g1 (by omega)
theorem pe_dn {m : List Int} {a b k j : Nat} (hl : b ≤ m.length) (h1 : a + 1 ≤ k) (h2 : k + 1 < j) (h3 : j ≤ b) (hd : ∀ q, j ≤ q → q < b → m.getD a 0 < m.getD q 0) (hk : m.getD a 0 < m.getD k 0) :
    ∀ q, j - 1 ≤ q → q < b → (swp m k (j - 1)).getD a 0 < (swp m k (j - 1)).getD q 0 := fun q g1 g2 => by
  rw [swp_get (by omega) (by omega), swp_get (by omega) (by omega), if_neg (show ¬ a = j - 1 by omega), if_neg (show ¬ a = k by omega)]
  split
  · exact hk
  · rw [if_neg (by omega)]; exact hd q (by omega) g2
set_option maxRecDepth 100000 in
set_option maxHeartbeats 16000000 in
theorem parteq_is (B g n cap a b p : Nat) (l : List Int) (w : World) (h : OwnN w B (.slice (some ⟨g, 0, none⟩) n cap) l) (hb : b ≤ n) (hn : n ≤ 10000) (hap : a ≤ p ∧ p < b) :
    Calls Tryz.prog 81 #[(.slice (some ⟨g, 0, none⟩) n cap), .int .i64 (a : Int), .int .i64 (b : Int), .int .i64 (p : Int)] w (GivesPe B g n cap a b p l w) := by
  have H := Lib.hid h
  have LEN := Lib.hid h.len
  clear h
  go_enter Tryz.func81, Tryz.ntmps81
  go_wp2_with fail
  go_cut [] from 11 to 24 (fun wc => OwnN wc B (.slice (some ⟨g, 0, none⟩) n cap) (swp l a p) ∧ Only g w wc)
  case first =>
    have E1 := Lib.hid (H.out.below (below_drew (Below.refl _ _)))
    refine wp_region_noPanic ?_
    refine wp_region_held_drew (S := fun _ => True) (by kernel_rfl) trivial (fun _ => ?_)
    refine tkm 0 rfl trivial ?_; try simp only [Act.put, stA, stZ, stS]
    refine tkm 1 rfl trivial ?_; try simp only [Act.put, stA, stZ, stS]
    refine tkm 2 rfl trivial ?_; try simp only [Act.put, stA, stZ, stS]
    refine tkm 3 rfl trivial ?_; try simp only [Act.put, stA, stZ, stS]
    refine tkm 4 rfl trivial ?_; try simp only [Act.put, stA, stZ, stS]
    refine tkm 5 rfl trivial ?_; try simp only [Act.put, stA, stZ, stS]
    refine tkv 6 (.pointer (some ⟨g, p, none⟩)) rfl (fun W hW => exec_ixg Tryz.underlying24 (.tmp 15) (.tmp 16) rfl g n cap p (p : Int) rfl rfl (by omega) (by omega)) trivial ?_; try simp only [Act.put, stA, stZ, stS]
    refine tkm 8 rfl trivial ?_; try simp only [Act.put, stA, stZ, stS]
    refine tkm 9 rfl trivial ?_; try simp only [Act.put, stA, stZ, stS]
    refine tkv 10 (.pointer (some ⟨g, a, none⟩)) rfl (fun W hW => exec_ixg Tryz.underlying24 (.tmp 19) (.tmp 20) rfl g n cap a (a : Int) rfl rfl (by omega) (by omega)) trivial ?_; try simp only [Act.put, stA, stZ, stS]
    refine rdy [7, 11] ?_
    refine ready_val (arR rfl) rfl (.int .u64 (l.getD p 0)) _ (exec_load_num (.tmp 17) rfl g p (l.getD p 0) rfl (E1.out.cell (by have := E1.out.len; omega))) ⟨trivial, ?_⟩ ?_
    · try simp only [Act.put, stA, stZ, stS]
      refine rdy [11] ?_
      refine ready_val (arR rfl) rfl (.int .u64 (l.getD a 0)) _ (exec_load_num (.tmp 21) rfl g a (l.getD a 0) rfl (E1.out.cell (by have := E1.out.len; omega))) ⟨trivial, ?_⟩ AllReadyH.nil
      try simp only [Act.put, stA, stZ, stS]
      refine tkv 12 (.pointer (some ⟨g, a, none⟩)) rfl (fun W hW => exec_ixg Tryz.underlying24 (.tmp 11) (.tmp 12) rfl g n cap a (a : Int) rfl rfl (by omega) (by omega)) trivial ?_; try simp only [Act.put, stA, stZ, stS]
      refine rdy [13] ?_
      refine ready_skip (arR rfl) rfl _ (exec_store_num (.tmp 23) (.tmp 18) rfl g a (l.getD p 0) (.int .u64 (l.getD a 0)) rfl rfl (E1.out.cell (by have := E1.out.len; omega)) (E1.out.fz a)) ⟨trivial, ?_⟩ AllReadyH.nil
      have D1 := Lib.hid (E1.out.set a (l.getD p 0) (E1.out.ok.at_ p))
      skip
      try simp only [Act.put]
      refine tkv 14 (.pointer (some ⟨g, p, none⟩)) rfl (fun W hW => exec_ixg Tryz.underlying24 (.tmp 13) (.tmp 14) rfl g n cap p (p : Int) rfl rfl (by omega) (by omega)) trivial ?_; try simp only [Act.put, stA, stZ, stS]
      refine rdy [15] ?_
      refine ready_skip (arR rfl) rfl _ (exec_store_num (.tmp 24) (.tmp 22) rfl g p (l.getD a 0) (.int .u64 ((l.set a (l.getD p 0)).getD p 0)) rfl rfl (D1.out.cell (by have := D1.out.len; omega)) (D1.out.fz p)) ⟨trivial, ?_⟩ AllReadyH.nil
      have D2 := Lib.hid (D1.out.set p (l.getD a 0) (E1.out.ok.at_ a))
      try simp only [Act.put]
      refine wpAnyH_done (by kernel_rfl) ?_ _
      refine NoPanic.normal ?_
      go_wp2_with fail
      go_meet
      case rel => exact ⟨D2.out, (((Only.refl g w).trans (only_drew g _)).trans (Only.set g a _ _)).trans (Only.set g p _ _)⟩
    refine ready_val (arR rfl) rfl (.int .u64 (l.getD a 0)) _ (exec_load_num (.tmp 21) rfl g a (l.getD a 0) rfl (E1.out.cell (by have := E1.out.len; omega))) ⟨trivial, ?_⟩ AllReadyH.nil
    try simp only [Act.put, stA, stZ, stS]
    refine rdy [7] ?_
    refine ready_val (arR rfl) rfl (.int .u64 (l.getD p 0)) _ (exec_load_num (.tmp 17) rfl g p (l.getD p 0) rfl (E1.out.cell (by have := E1.out.len; omega))) ⟨trivial, ?_⟩ AllReadyH.nil
    try simp only [Act.put, stA, stZ, stS]
    refine tkv 12 (.pointer (some ⟨g, a, none⟩)) rfl (fun W hW => exec_ixg Tryz.underlying24 (.tmp 11) (.tmp 12) rfl g n cap a (a : Int) rfl rfl (by omega) (by omega)) trivial ?_; try simp only [Act.put, stA, stZ, stS]
    refine rdy [13] ?_
    refine ready_skip (arR rfl) rfl _ (exec_store_num (.tmp 23) (.tmp 18) rfl g a (l.getD p 0) (.int .u64 (l.getD a 0)) rfl rfl (E1.out.cell (by have := E1.out.len; omega)) (E1.out.fz a)) ⟨trivial, ?_⟩ AllReadyH.nil
    have D1 := Lib.hid (E1.out.set a (l.getD p 0) (E1.out.ok.at_ p))
    skip
    try simp only [Act.put]
    refine tkv 14 (.pointer (some ⟨g, p, none⟩)) rfl (fun W hW => exec_ixg Tryz.underlying24 (.tmp 13) (.tmp 14) rfl g n cap p (p : Int) rfl rfl (by omega) (by omega)) trivial ?_; try simp only [Act.put, stA, stZ, stS]
    refine rdy [15] ?_
    refine ready_skip (arR rfl) rfl _ (exec_store_num (.tmp 24) (.tmp 22) rfl g p (l.getD a 0) (.int .u64 ((l.set a (l.getD p 0)).getD p 0)) rfl rfl (D1.out.cell (by have := D1.out.len; omega)) (D1.out.fz p)) ⟨trivial, ?_⟩ AllReadyH.nil
    have D2 := Lib.hid (D1.out.set p (l.getD a 0) (E1.out.ok.at_ a))
    try simp only [Act.put]
    refine wpAnyH_done (by kernel_rfl) ?_ _
    refine NoPanic.normal ?_
    go_wp2_with fail
    go_meet
    case rel => exact ⟨D2.out, (((Only.refl g w).trans (only_drew g _)).trans (Only.set g a _ _)).trans (Only.set g p _ _)⟩
  case rest =>
    obtain ⟨hm, ho⟩ := hcut
    obtain ⟨m0, em⟩ : ∃ z, z = swp l a p := ⟨_, rfl⟩
    have P := Lib.hid (show Per a b l m0 by rw [em]; exact Per.one (Nat.le_refl _) (by omega) hap.1 hap.2 (by have := LEN.out; omega))
    have PV := Lib.hid (show m0.getD a 0 = l.getD p 0 by
      rw [em, swp_get (by have := LEN.out; omega) (by have := LEN.out; omega)]
      split
      · rename_i e; rw [← e]
      · rw [if_pos rfl])
    rw [← em] at hm
    have DM0 := Lib.hid hm
    have OM0 := Lib.hid ho
    clear hm ho em H
    go_wp2_with (first | (refine wpList_val rfl _ (exec_addn _ _ rfl (a : Int) 1 ((a + 1 : Nat) : Int) rfl rfl (by omega) (by omega)) ?_) | (refine wpList_val rfl _ (exec_subn _ _ rfl (b : Int) 1 ((b : Int) - 1) rfl rfl rfl (by omega)) ?_))
    go_loopw [9, 10] (fun i j wr => ∃ (u v : Nat) (m : List Int), i = .int .i64 (u : Int) ∧ j = .int .i64 ((v : Int) - 1) ∧ (a + 1 ≤ u ∧ u ≤ v ∧ v ≤ b) ∧ (∀ q, a + 1 ≤ q → q < u → m.getD q 0 ≤ m.getD a 0) ∧ (∀ q, v ≤ q → q < b → m.getD a 0 < m.getD q 0) ∧ OwnN wr B (.slice (some ⟨g, 0, none⟩) n cap) m ∧ (Per a b l m ∧ m.getD a 0 = l.getD p 0) ∧ Only g w wr) (fun i j _ => (intOf j + 1 - intOf i).toNat)
    case atStart => exact ⟨a + 1, b, m0, rfl, rfl, by omega, fun q h1 h2 => by omega, fun q h1 h2 => by omega, DM0.out, ⟨P.out, PV.out⟩, OM0.out⟩
    case round =>
      obtain ⟨k0, jj, m, rfl, rfl, hr, hU, hV, hm, hP, ho⟩ := hrel
      have UU := Lib.hid hU
      have VV := Lib.hid hV
      have DM := Lib.hid hm
      have PM := Lib.hid hP.1
      have PV := Lib.hid hP.2
      have OM := Lib.hid ho
      have ML := Lib.hid hm.len
      have hkj := hr.2.1
      clear hU hV hm hP ho
      go_upto_block 2 with fail
      go_cut [9] from 29 to 82 (fun i wc => ∃ k : Nat, i = .int .i64 (k : Int) ∧ (k0 ≤ k ∧ k ≤ jj) ∧ (∀ q, k0 ≤ q → q < k → m.getD q 0 ≤ m.getD a 0) ∧ (k = jj ∨ ¬ m.getD k 0 ≤ m.getD a 0) ∧ OwnN wc B (.slice (some ⟨g, 0, none⟩) n cap) m ∧ Only g w wc)
      case first =>
        go_wp2_with fail
        go_loopw [9] (fun i wr => ∃ k : Nat, i = .int .i64 (k : Int) ∧ (k0 ≤ k ∧ k ≤ jj) ∧ (∀ q, k0 ≤ q → q < k → m.getD q 0 ≤ m.getD a 0) ∧ OwnN wr B (.slice (some ⟨g, 0, none⟩) n cap) m ∧ Only g w wr) (fun i _ => jj + 1 - (intOf i).toNat)
        case atStart => exact ⟨k0, rfl, ⟨Nat.le_refl _, hkj⟩, fun q h1 h2 => by omega, DM.out, OM.out⟩
        case round =>
          obtain ⟨k, rfl, hk, hall, hm, ho⟩ := hrel
          have D := Lib.hid hm
          have OO := Lib.hid ho
          have HA := Lib.hid hall
          have DL := Lib.hid hm.len
          have S0 := Lib.hid (show Below wr.heap.size wr wr.drew from below_drew (Below.refl _ _))
          have DD := Lib.hid (D.out.below S0.out)
          have OD := Lib.hid (OO.out.trans (only_drew g wr))
          clear hm ho hall
          by_cases hlt : k < jj
          · have hg1 : decide ((k : Int) ≤ (jj : Int) - 1) = true := decide_eq_true (by omega)
            by_cases hc : m.getD k 0 ≤ m.getD a 0
            · have HC := Lib.hid (show decide (m.getD a 0 < m.getD k 0) = false from decide_eq_false (by omega))
              go_wp2_with fail
              refine wp_region_noPanic ?_
              refine wp_region_held_drew (S := fun W => Below wr.heap.size wr W) (by kernel_rfl) S0.out (fun _ => ?_)
              refine tkm 0 rfl S0.out ?_; try simp only [Act.put, stA, stZ, stS]
              refine tkm 1 rfl S0.out ?_; try simp only [Act.put, stA, stZ, stS]
              refine tkv 2 (.bool true) rfl (fun W hW => exec_le (.tmp 29) (.tmp 30) rfl (k : Int) ((jj : Int) - 1) true rfl rfl (by first | assumption | exact decide_eq_true (by omega) | exact decide_eq_false (by omega))) S0.out ?_; try simp only [Act.put, stA, stZ, stS]
              refine tkm 3 rfl S0.out ?_; try simp only [Act.put, stA, stZ, stS]
              refine tkm 4 rfl S0.out ?_; try simp only [Act.put, stA, stZ, stS]
              refine tkm 5 rfl S0.out ?_; try simp only [Act.put, stA, stZ, stS]
              refine tkv 6 (.pointer (some ⟨g, a, none⟩)) rfl (fun W hW => exec_ixg Tryz.underlying24 (.tmp 33) (.tmp 34) rfl g n cap a (a : Int) rfl rfl (by omega) (by omega)) S0.out ?_; try simp only [Act.put, stA, stZ, stS]
              refine tkv 7 (.int .u64 (m.getD a 0)) rfl (fun W hW => exec_load_num (.tmp 35) rfl g a (m.getD a 0) rfl (OwnN.cell (D.out.below hW) (by have := D.out.len; omega))) S0.out ?_; try simp only [Act.put, stA, stZ, stS]
              refine tkm 8 rfl S0.out ?_; try simp only [Act.put, stA, stZ, stS]
              refine tkm 9 rfl S0.out ?_; try simp only [Act.put, stA, stZ, stS]
              refine tkv 10 (.pointer (some ⟨g, k, none⟩)) rfl (fun W hW => exec_ixg Tryz.underlying24 (.tmp 37) (.tmp 38) rfl g n cap k (k : Int) rfl rfl (by omega) (by omega)) S0.out ?_; try simp only [Act.put, stA, stZ, stS]
              refine tkv 11 (.int .u64 (m.getD k 0)) rfl (fun W hW => exec_load_num (.tmp 39) rfl g k (m.getD k 0) rfl (OwnN.cell (D.out.below hW) (by have := D.out.len; omega))) S0.out ?_; try simp only [Act.put, stA, stZ, stS]
              refine rdy [12] ?_
              refine AllReadyH.cons (arR rfl) (fun K hK => ?_) AllReadyH.nil
              go_simp
              refine (less16_is _ _ false _ (Lib.hid (HC.out))).mono ?_
              rintro e wl ⟨rfl, rfl⟩
              go_wp2_with fail
              refine hK.out _ _ S0.out (fun _ => ?_)
              clear hK K
              try simp only [Act.put, stA, stZ, stS]
              refine tkm 13 rfl S0.out ?_; try simp only [Act.put, stA, stZ, stS]
              refine tkm 14 rfl S0.out ?_; try simp only [Act.put, stA, stZ, stS]
              refine wpAnyH_done (by kernel_rfl) ?_ _
              refine NoPanic.normal ?_
              go_wp2_with (refine wpList_val rfl _ (exec_addn _ _ rfl (k : Int) 1 ((k + 1 : Nat) : Int) rfl rfl (by omega) (by omega)) ?_)
              go_roundw
              case rel => exact ⟨k + 1, rfl, by omega, fun q h1 h2 => by
                  by_cases e : q = k
                  · subst e; exact hc
                  · exact HA.out q h1 (by omega), DD.out, OD.out⟩
              case measure => simp [intOf]; omega
            · have HC := Lib.hid (show decide (m.getD a 0 < m.getD k 0) = true from decide_eq_true (by omega))
              go_wp2_with fail
              refine wp_region_noPanic ?_
              refine wp_region_held_drew (S := fun W => Below wr.heap.size wr W) (by kernel_rfl) S0.out (fun _ => ?_)
              refine tkm 0 rfl S0.out ?_; try simp only [Act.put, stA, stZ, stS]
              refine tkm 1 rfl S0.out ?_; try simp only [Act.put, stA, stZ, stS]
              refine tkv 2 (.bool true) rfl (fun W hW => exec_le (.tmp 29) (.tmp 30) rfl (k : Int) ((jj : Int) - 1) true rfl rfl (by first | assumption | exact decide_eq_true (by omega) | exact decide_eq_false (by omega))) S0.out ?_; try simp only [Act.put, stA, stZ, stS]
              refine tkm 3 rfl S0.out ?_; try simp only [Act.put, stA, stZ, stS]
              refine tkm 4 rfl S0.out ?_; try simp only [Act.put, stA, stZ, stS]
              refine tkm 5 rfl S0.out ?_; try simp only [Act.put, stA, stZ, stS]
              refine tkv 6 (.pointer (some ⟨g, a, none⟩)) rfl (fun W hW => exec_ixg Tryz.underlying24 (.tmp 33) (.tmp 34) rfl g n cap a (a : Int) rfl rfl (by omega) (by omega)) S0.out ?_; try simp only [Act.put, stA, stZ, stS]
              refine tkv 7 (.int .u64 (m.getD a 0)) rfl (fun W hW => exec_load_num (.tmp 35) rfl g a (m.getD a 0) rfl (OwnN.cell (D.out.below hW) (by have := D.out.len; omega))) S0.out ?_; try simp only [Act.put, stA, stZ, stS]
              refine tkm 8 rfl S0.out ?_; try simp only [Act.put, stA, stZ, stS]
              refine tkm 9 rfl S0.out ?_; try simp only [Act.put, stA, stZ, stS]
              refine tkv 10 (.pointer (some ⟨g, k, none⟩)) rfl (fun W hW => exec_ixg Tryz.underlying24 (.tmp 37) (.tmp 38) rfl g n cap k (k : Int) rfl rfl (by omega) (by omega)) S0.out ?_; try simp only [Act.put, stA, stZ, stS]
              refine tkv 11 (.int .u64 (m.getD k 0)) rfl (fun W hW => exec_load_num (.tmp 39) rfl g k (m.getD k 0) rfl (OwnN.cell (D.out.below hW) (by have := D.out.len; omega))) S0.out ?_; try simp only [Act.put, stA, stZ, stS]
              refine rdy [12] ?_
              refine AllReadyH.cons (arR rfl) (fun K hK => ?_) AllReadyH.nil
              go_simp
              refine (less16_is _ _ true _ (Lib.hid (HC.out))).mono ?_
              rintro e wl ⟨rfl, rfl⟩
              go_wp2_with fail
              refine hK.out _ _ S0.out (fun _ => ?_)
              clear hK K
              try simp only [Act.put, stA, stZ, stS]
              refine tkm 13 rfl S0.out ?_; try simp only [Act.put, stA, stZ, stS]
              refine tkm 14 rfl S0.out ?_; try simp only [Act.put, stA, stZ, stS]
              refine wpAnyH_done (by kernel_rfl) ?_ _
              refine NoPanic.normal ?_
              go_wp2_with fail
              go_meet
              case rel => exact ⟨k, rfl, hk, HA.out, .inr hc, DD.out, OD.out⟩
          · have hg1 : decide ((k : Int) ≤ (jj : Int) - 1) = false := decide_eq_false (by omega)
            go_wp2_with fail
            refine wp_region_noPanic ?_
            refine wp_region_held_drew (S := fun W => Below wr.heap.size wr W) (by kernel_rfl) S0.out (fun _ => ?_)
            refine tkm 0 rfl S0.out ?_; try simp only [Act.put, stA, stZ, stS]
            refine tkm 1 rfl S0.out ?_; try simp only [Act.put, stA, stZ, stS]
            refine tkv 2 (.bool false) rfl (fun W hW => exec_le (.tmp 29) (.tmp 30) rfl (k : Int) ((jj : Int) - 1) false rfl rfl (by first | assumption | exact decide_eq_true (by omega) | exact decide_eq_false (by omega))) S0.out ?_; try simp only [Act.put, stA, stZ, stS]
            refine tkm 3 rfl S0.out ?_; try simp only [Act.put, stA, stZ, stS]
            refine tks 4 rfl S0.out ?_; try simp only [Act.put, stA, stZ, stS]
            refine tks 5 rfl S0.out ?_; try simp only [Act.put, stA, stZ, stS]
            refine tks 6 rfl S0.out ?_; try simp only [Act.put, stA, stZ, stS]
            refine tks 7 rfl S0.out ?_; try simp only [Act.put, stA, stZ, stS]
            refine tks 8 rfl S0.out ?_; try simp only [Act.put, stA, stZ, stS]
            refine tks 9 rfl S0.out ?_; try simp only [Act.put, stA, stZ, stS]
            refine tks 10 rfl S0.out ?_; try simp only [Act.put, stA, stZ, stS]
            refine tks 11 rfl S0.out ?_; try simp only [Act.put, stA, stZ, stS]
            refine tks 12 rfl S0.out ?_; try simp only [Act.put, stA, stZ, stS]
            refine tks 13 rfl S0.out ?_; try simp only [Act.put, stA, stZ, stS]
            refine tkm 14 rfl S0.out ?_; try simp only [Act.put, stA, stZ, stS]
            refine wpAnyH_done (by kernel_rfl) ?_ _
            refine NoPanic.normal ?_
            go_wp2_with fail
            go_meet
            case rel => exact ⟨k, rfl, hk, HA.out, .inl (by omega), DD.out, OD.out⟩
      case rest =>
        obtain ⟨kk, rfl, hkk, hup, hstop, dm1, om1⟩ := hcut
        have UP := Lib.hid hup
        have ST := Lib.hid hstop
        have DM1 := Lib.hid dm1
        have OM1 := Lib.hid om1
        clear hup hstop dm1 om1 DM OM hkj
        obtain ⟨k0', hk0'⟩ : ∃ z, z = jj := ⟨_, rfl⟩
        have K0' := Lib.hid hk0'
        rw [← hk0'] at hkk ⊢
        have hk0b : k0' ≤ jj ∧ jj ≤ k0' ∧ k0' ≤ b := by omega
        clear hk0'
        have hkj := hkk.2
        have DM := DM1
        have OM := OM1
        go_upto_block 4 with fail
        go_cut [10] from 29 to 82 (fun j wc => ∃ k : Nat, j = .int .i64 ((k : Int) - 1) ∧ (kk ≤ k ∧ k ≤ k0') ∧ (∀ q, k ≤ q → q < k0' → m.getD a 0 < m.getD q 0) ∧ (k = kk ∨ ¬ m.getD a 0 < m.getD (k - 1) 0) ∧ OwnN wc B (.slice (some ⟨g, 0, none⟩) n cap) m ∧ Only g w wc)
        case first =>
          go_wp2_with fail
          go_loopw [10] (fun j wr => ∃ k : Nat, j = .int .i64 ((k : Int) - 1) ∧ (kk ≤ k ∧ k ≤ k0') ∧ (∀ q, k ≤ q → q < k0' → m.getD a 0 < m.getD q 0) ∧ OwnN wr B (.slice (some ⟨g, 0, none⟩) n cap) m ∧ Only g w wr) (fun j _ => (intOf j + 1).toNat)
          case atStart => exact ⟨k0', rfl, ⟨hkj, Nat.le_refl _⟩, fun q h1 h2 => by omega, DM.out, OM.out⟩
          case round =>
            obtain ⟨k, rfl, hk, hall, hm, ho⟩ := hrel
            have D := Lib.hid hm
            have OO := Lib.hid ho
            have HA := Lib.hid hall
            have DL := Lib.hid hm.len
            have S0 := Lib.hid (show Below wr.heap.size wr wr.drew from below_drew (Below.refl _ _))
            have DD := Lib.hid (D.out.below S0.out)
            have OD := Lib.hid (OO.out.trans (only_drew g wr))
            clear hm ho hall
            by_cases hlt : kk < k
            · have hg1 : decide ((kk : Int) ≤ (k : Int) - 1) = true := decide_eq_true (by omega)
              by_cases hc : m.getD a 0 < m.getD (k - 1) 0
              · have HC := Lib.hid (show decide (m.getD a 0 < m.getD (k - 1) 0) = true from decide_eq_true hc)
                go_wp2_with fail
                refine wp_region_noPanic ?_
                refine wp_region_held_drew (S := fun W => Below wr.heap.size wr W) (by kernel_rfl) S0.out (fun _ => ?_)
                refine tkm 0 rfl S0.out ?_; try simp only [Act.put, stA, stZ, stS]
                refine tkm 1 rfl S0.out ?_; try simp only [Act.put, stA, stZ, stS]
                refine tkv 2 (.bool true) rfl (fun W hW => exec_le (.tmp 46) (.tmp 47) rfl (kk : Int) ((k : Int) - 1) true rfl rfl (by first | assumption | exact decide_eq_true (by omega) | exact decide_eq_false (by omega))) S0.out ?_; try simp only [Act.put, stA, stZ, stS]
                refine tkm 3 rfl S0.out ?_; try simp only [Act.put, stA, stZ, stS]
                refine tkm 4 rfl S0.out ?_; try simp only [Act.put, stA, stZ, stS]
                refine tkm 5 rfl S0.out ?_; try simp only [Act.put, stA, stZ, stS]
                refine tkv 6 (.pointer (some ⟨g, a, none⟩)) rfl (fun W hW => exec_ixg Tryz.underlying24 (.tmp 50) (.tmp 51) rfl g n cap a (a : Int) rfl rfl (by omega) (by omega)) S0.out ?_; try simp only [Act.put, stA, stZ, stS]
                refine tkv 7 (.int .u64 (m.getD a 0)) rfl (fun W hW => exec_load_num (.tmp 52) rfl g a (m.getD a 0) rfl (OwnN.cell (D.out.below hW) (by have := D.out.len; omega))) S0.out ?_; try simp only [Act.put, stA, stZ, stS]
                refine tkm 8 rfl S0.out ?_; try simp only [Act.put, stA, stZ, stS]
                refine tkm 9 rfl S0.out ?_; try simp only [Act.put, stA, stZ, stS]
                refine tkv 10 (.pointer (some ⟨g, (k - 1), none⟩)) rfl (fun W hW => exec_ixg Tryz.underlying24 (.tmp 54) (.tmp 55) rfl g n cap (k - 1) ((k : Int) - 1) rfl rfl (by omega) (by omega)) S0.out ?_; try simp only [Act.put, stA, stZ, stS]
                refine tkv 11 (.int .u64 (m.getD (k - 1) 0)) rfl (fun W hW => exec_load_num (.tmp 56) rfl g (k - 1) (m.getD (k - 1) 0) rfl (OwnN.cell (D.out.below hW) (by have := D.out.len; omega))) S0.out ?_; try simp only [Act.put, stA, stZ, stS]
                refine rdy [12] ?_
                refine AllReadyH.cons (arR rfl) (fun K hK => ?_) AllReadyH.nil
                go_simp
                refine (less16_is _ _ true _ (Lib.hid (HC.out))).mono ?_
                rintro e wl ⟨rfl, rfl⟩
                go_wp2_with fail
                refine hK.out _ _ S0.out (fun _ => ?_)
                clear hK K
                try simp only [Act.put, stA, stZ, stS]
                refine tkm 13 rfl S0.out ?_; try simp only [Act.put, stA, stZ, stS]
                refine wpAnyH_done (by kernel_rfl) ?_ _
                refine NoPanic.normal ?_
                go_wp2_with (refine wpList_val rfl _ (exec_subn _ _ rfl ((k : Int) - 1) 1 (((k - 1 : Nat) : Int) - 1) rfl rfl (by omega) (by omega)) ?_)
                go_roundw
                case rel => exact ⟨k - 1, rfl, by omega, fun q h1 h2 => by
                    by_cases e : q = k - 1
                    · subst e; exact hc
                    · exact HA.out q (by omega) h2, DD.out, OD.out⟩
                case measure => simp [intOf]; omega
              · have HC := Lib.hid (show decide (m.getD a 0 < m.getD (k - 1) 0) = false from decide_eq_false hc)
                go_wp2_with fail
                refine wp_region_noPanic ?_
                refine wp_region_held_drew (S := fun W => Below wr.heap.size wr W) (by kernel_rfl) S0.out (fun _ => ?_)
                refine tkm 0 rfl S0.out ?_; try simp only [Act.put, stA, stZ, stS]
                refine tkm 1 rfl S0.out ?_; try simp only [Act.put, stA, stZ, stS]
                refine tkv 2 (.bool true) rfl (fun W hW => exec_le (.tmp 46) (.tmp 47) rfl (kk : Int) ((k : Int) - 1) true rfl rfl (by first | assumption | exact decide_eq_true (by omega) | exact decide_eq_false (by omega))) S0.out ?_; try simp only [Act.put, stA, stZ, stS]
                refine tkm 3 rfl S0.out ?_; try simp only [Act.put, stA, stZ, stS]
                refine tkm 4 rfl S0.out ?_; try simp only [Act.put, stA, stZ, stS]
                refine tkm 5 rfl S0.out ?_; try simp only [Act.put, stA, stZ, stS]
                refine tkv 6 (.pointer (some ⟨g, a, none⟩)) rfl (fun W hW => exec_ixg Tryz.underlying24 (.tmp 50) (.tmp 51) rfl g n cap a (a : Int) rfl rfl (by omega) (by omega)) S0.out ?_; try simp only [Act.put, stA, stZ, stS]
                refine tkv 7 (.int .u64 (m.getD a 0)) rfl (fun W hW => exec_load_num (.tmp 52) rfl g a (m.getD a 0) rfl (OwnN.cell (D.out.below hW) (by have := D.out.len; omega))) S0.out ?_; try simp only [Act.put, stA, stZ, stS]
                refine tkm 8 rfl S0.out ?_; try simp only [Act.put, stA, stZ, stS]
                refine tkm 9 rfl S0.out ?_; try simp only [Act.put, stA, stZ, stS]
                refine tkv 10 (.pointer (some ⟨g, (k - 1), none⟩)) rfl (fun W hW => exec_ixg Tryz.underlying24 (.tmp 54) (.tmp 55) rfl g n cap (k - 1) ((k : Int) - 1) rfl rfl (by omega) (by omega)) S0.out ?_; try simp only [Act.put, stA, stZ, stS]
                refine tkv 11 (.int .u64 (m.getD (k - 1) 0)) rfl (fun W hW => exec_load_num (.tmp 56) rfl g (k - 1) (m.getD (k - 1) 0) rfl (OwnN.cell (D.out.below hW) (by have := D.out.len; omega))) S0.out ?_; try simp only [Act.put, stA, stZ, stS]
                refine rdy [12] ?_
                refine AllReadyH.cons (arR rfl) (fun K hK => ?_) AllReadyH.nil
                go_simp
                refine (less16_is _ _ false _ (Lib.hid (HC.out))).mono ?_
                rintro e wl ⟨rfl, rfl⟩
                go_wp2_with fail
                refine hK.out _ _ S0.out (fun _ => ?_)
                clear hK K
                try simp only [Act.put, stA, stZ, stS]
                refine tkm 13 rfl S0.out ?_; try simp only [Act.put, stA, stZ, stS]
                refine wpAnyH_done (by kernel_rfl) ?_ _
                refine NoPanic.normal ?_
                go_wp2_with fail
                go_meet
                case rel => exact ⟨k, rfl, hk, HA.out, .inr hc, DD.out, OD.out⟩
            · have hg1 : decide ((kk : Int) ≤ (k : Int) - 1) = false := decide_eq_false (by omega)
              go_wp2_with fail
              refine wp_region_noPanic ?_
              refine wp_region_held_drew (S := fun W => Below wr.heap.size wr W) (by kernel_rfl) S0.out (fun _ => ?_)
              refine tkm 0 rfl S0.out ?_; try simp only [Act.put, stA, stZ, stS]
              refine tkm 1 rfl S0.out ?_; try simp only [Act.put, stA, stZ, stS]
              refine tkv 2 (.bool false) rfl (fun W hW => exec_le (.tmp 46) (.tmp 47) rfl (kk : Int) ((k : Int) - 1) false rfl rfl (by first | assumption | exact decide_eq_true (by omega) | exact decide_eq_false (by omega))) S0.out ?_; try simp only [Act.put, stA, stZ, stS]
              refine tkm 3 rfl S0.out ?_; try simp only [Act.put, stA, stZ, stS]
              refine tks 4 rfl S0.out ?_; try simp only [Act.put, stA, stZ, stS]
              refine tks 5 rfl S0.out ?_; try simp only [Act.put, stA, stZ, stS]
              refine tks 6 rfl S0.out ?_; try simp only [Act.put, stA, stZ, stS]
              refine tks 7 rfl S0.out ?_; try simp only [Act.put, stA, stZ, stS]
              refine tks 8 rfl S0.out ?_; try simp only [Act.put, stA, stZ, stS]
              refine tks 9 rfl S0.out ?_; try simp only [Act.put, stA, stZ, stS]
              refine tks 10 rfl S0.out ?_; try simp only [Act.put, stA, stZ, stS]
              refine tks 11 rfl S0.out ?_; try simp only [Act.put, stA, stZ, stS]
              refine tks 12 rfl S0.out ?_; try simp only [Act.put, stA, stZ, stS]
              refine tkm 13 rfl S0.out ?_; try simp only [Act.put, stA, stZ, stS]
              refine wpAnyH_done (by kernel_rfl) ?_ _
              refine NoPanic.normal ?_
              go_wp2_with fail
              go_meet
              case rel => exact ⟨k, rfl, hk, HA.out, .inl (by omega), DD.out, OD.out⟩
        case rest =>
          obtain ⟨k, rfl, hk, hdn, hstop2, dm2, om2⟩ := hcut
          have DN := Lib.hid hdn
          have ST2 := Lib.hid hstop2
          have DM2 := Lib.hid dm2
          have OM2 := Lib.hid om2
          clear hdn hstop2 dm2 om2
          have U2 := Lib.hid (show ∀ q, a + 1 ≤ q → q < kk → m.getD q 0 ≤ m.getD a 0 from fun q h1 h2 => by
            by_cases e : q < k0
            · exact UU.out q h1 e
            · exact UP.out q (by omega) h2)
          have V2 := Lib.hid (show ∀ q, k ≤ q → q < b → m.getD a 0 < m.getD q 0 from fun q h1 h2 => by
            by_cases e : jj ≤ q
            · exact VV.out q e h2
            · exact DN.out q h1 (by have := K0'.out; omega))
          have hkb : a + 1 ≤ kk ∧ kk ≤ k ∧ k ≤ b := by have := K0'.out; omega
          clear UP DN
          by_cases hlt : kk < k
          · have hg : decide ((k : Int) - 1 < (kk : Int)) = false := decide_eq_false (by omega)
            have KK := Lib.hid (show m.getD a 0 < m.getD kk 0 by
              rcases ST.out with e | e
              · have := K0'.out; omega
              · omega)
            have KJ := Lib.hid (show m.getD (k - 1) 0 ≤ m.getD a 0 by
              rcases ST2.out with e | e
              · omega
              · omega)
            have hne : kk + 1 < k := by
              by_cases e : kk + 1 = k
              · have h1 := KK.out; have h2 := KJ.out; rw [← e, Nat.add_sub_cancel] at h2; omega
              · omega
            go_wp2_with (refine wpList_val rfl _ (exec_gt _ _ rfl (kk : Int) ((k : Int) - 1) false rfl rfl hg) ?_)
            clear hg
            go_cut [] from 29 to 82 (fun wc => OwnN wc B (.slice (some ⟨g, 0, none⟩) n cap) (swp m kk (k - 1)) ∧ Only g w wc)
            case first =>
              have E1 := Lib.hid (DM2.out.below (below_drew (Below.refl _ _)))
              refine wp_region_noPanic ?_
              refine wp_region_held_drew (S := fun _ => True) (by kernel_rfl) trivial (fun _ => ?_)
              refine tkm 0 rfl trivial ?_; try simp only [Act.put, stA, stZ, stS]
              refine tkm 1 rfl trivial ?_; try simp only [Act.put, stA, stZ, stS]
              refine tkm 2 rfl trivial ?_; try simp only [Act.put, stA, stZ, stS]
              refine tkm 3 rfl trivial ?_; try simp only [Act.put, stA, stZ, stS]
              refine tkm 4 rfl trivial ?_; try simp only [Act.put, stA, stZ, stS]
              refine tkm 5 rfl trivial ?_; try simp only [Act.put, stA, stZ, stS]
              refine tkv 6 (.pointer (some ⟨g, (k - 1), none⟩)) rfl (fun W hW => exec_ixg Tryz.underlying24 (.tmp 69) (.tmp 70) rfl g n cap (k - 1) ((k : Int) - 1) rfl rfl (by omega) (by omega)) trivial ?_; try simp only [Act.put, stA, stZ, stS]
              refine tkm 8 rfl trivial ?_; try simp only [Act.put, stA, stZ, stS]
              refine tkm 9 rfl trivial ?_; try simp only [Act.put, stA, stZ, stS]
              refine tkv 10 (.pointer (some ⟨g, kk, none⟩)) rfl (fun W hW => exec_ixg Tryz.underlying24 (.tmp 73) (.tmp 74) rfl g n cap kk (kk : Int) rfl rfl (by omega) (by omega)) trivial ?_; try simp only [Act.put, stA, stZ, stS]
              refine rdy [7, 11] ?_
              refine ready_val (arR rfl) rfl (.int .u64 (m.getD (k - 1) 0)) _ (exec_load_num (.tmp 71) rfl g (k - 1) (m.getD (k - 1) 0) rfl (E1.out.cell (by have := E1.out.len; omega))) ⟨trivial, ?_⟩ ?_
              · try simp only [Act.put, stA, stZ, stS]
                refine rdy [11] ?_
                refine ready_val (arR rfl) rfl (.int .u64 (m.getD kk 0)) _ (exec_load_num (.tmp 75) rfl g kk (m.getD kk 0) rfl (E1.out.cell (by have := E1.out.len; omega))) ⟨trivial, ?_⟩ AllReadyH.nil
                try simp only [Act.put, stA, stZ, stS]
                refine tkv 12 (.pointer (some ⟨g, kk, none⟩)) rfl (fun W hW => exec_ixg Tryz.underlying24 (.tmp 65) (.tmp 66) rfl g n cap kk (kk : Int) rfl rfl (by omega) (by omega)) trivial ?_; try simp only [Act.put, stA, stZ, stS]
                refine rdy [13] ?_
                refine ready_skip (arR rfl) rfl _ (exec_store_num (.tmp 77) (.tmp 72) rfl g kk (m.getD (k - 1) 0) (.int .u64 (m.getD kk 0)) rfl rfl (E1.out.cell (by have := E1.out.len; omega)) (E1.out.fz kk)) ⟨trivial, ?_⟩ AllReadyH.nil
                have D1 := Lib.hid (E1.out.set kk (m.getD (k - 1) 0) (E1.out.ok.at_ (k - 1)))
                skip
                try simp only [Act.put]
                refine tkv 14 (.pointer (some ⟨g, (k - 1), none⟩)) rfl (fun W hW => exec_ixg Tryz.underlying24 (.tmp 67) (.tmp 68) rfl g n cap (k - 1) ((k : Int) - 1) rfl rfl (by omega) (by omega)) trivial ?_; try simp only [Act.put, stA, stZ, stS]
                refine rdy [15] ?_
                refine ready_skip (arR rfl) rfl _ (exec_store_num (.tmp 78) (.tmp 76) rfl g (k - 1) (m.getD kk 0) (.int .u64 ((m.set kk (m.getD (k - 1) 0)).getD (k - 1) 0)) rfl rfl (D1.out.cell (by have := D1.out.len; omega)) (D1.out.fz (k - 1))) ⟨trivial, ?_⟩ AllReadyH.nil
                have D2 := Lib.hid (D1.out.set (k - 1) (m.getD kk 0) (E1.out.ok.at_ kk))
                try simp only [Act.put]
                refine wpAnyH_done (by kernel_rfl) ?_ _
                refine NoPanic.normal ?_
                go_wp2_with fail
                go_meet
                case rel => exact ⟨D2.out, ((OM2.out.trans (only_drew g _)).trans (Only.set g kk _ _)).trans (Only.set g (k - 1) _ _)⟩
              refine ready_val (arR rfl) rfl (.int .u64 (m.getD kk 0)) _ (exec_load_num (.tmp 75) rfl g kk (m.getD kk 0) rfl (E1.out.cell (by have := E1.out.len; omega))) ⟨trivial, ?_⟩ AllReadyH.nil
              try simp only [Act.put, stA, stZ, stS]
              refine rdy [7] ?_
              refine ready_val (arR rfl) rfl (.int .u64 (m.getD (k - 1) 0)) _ (exec_load_num (.tmp 71) rfl g (k - 1) (m.getD (k - 1) 0) rfl (E1.out.cell (by have := E1.out.len; omega))) ⟨trivial, ?_⟩ AllReadyH.nil
              try simp only [Act.put, stA, stZ, stS]
              refine tkv 12 (.pointer (some ⟨g, kk, none⟩)) rfl (fun W hW => exec_ixg Tryz.underlying24 (.tmp 65) (.tmp 66) rfl g n cap kk (kk : Int) rfl rfl (by omega) (by omega)) trivial ?_; try simp only [Act.put, stA, stZ, stS]
              refine rdy [13] ?_
              refine ready_skip (arR rfl) rfl _ (exec_store_num (.tmp 77) (.tmp 72) rfl g kk (m.getD (k - 1) 0) (.int .u64 (m.getD kk 0)) rfl rfl (E1.out.cell (by have := E1.out.len; omega)) (E1.out.fz kk)) ⟨trivial, ?_⟩ AllReadyH.nil
              have D1 := Lib.hid (E1.out.set kk (m.getD (k - 1) 0) (E1.out.ok.at_ (k - 1)))
              skip
              try simp only [Act.put]
              refine tkv 14 (.pointer (some ⟨g, (k - 1), none⟩)) rfl (fun W hW => exec_ixg Tryz.underlying24 (.tmp 67) (.tmp 68) rfl g n cap (k - 1) ((k : Int) - 1) rfl rfl (by omega) (by omega)) trivial ?_; try simp only [Act.put, stA, stZ, stS]
              refine rdy [15] ?_
              refine ready_skip (arR rfl) rfl _ (exec_store_num (.tmp 78) (.tmp 76) rfl g (k - 1) (m.getD kk 0) (.int .u64 ((m.set kk (m.getD (k - 1) 0)).getD (k - 1) 0)) rfl rfl (D1.out.cell (by have := D1.out.len; omega)) (D1.out.fz (k - 1))) ⟨trivial, ?_⟩ AllReadyH.nil
              have D2 := Lib.hid (D1.out.set (k - 1) (m.getD kk 0) (E1.out.ok.at_ kk))
              try simp only [Act.put]
              refine wpAnyH_done (by kernel_rfl) ?_ _
              refine NoPanic.normal ?_
              go_wp2_with fail
              go_meet
              case rel => exact ⟨D2.out, ((OM2.out.trans (only_drew g _)).trans (Only.set g kk _ _)).trans (Only.set g (k - 1) _ _)⟩
            case rest =>
              obtain ⟨hm3, ho3⟩ := hcut
              have P3 := Lib.hid (show Per a b l (swp m kk (k - 1)) from .swap PM.out (by omega) (by omega) (by omega) (by omega) (by have := ML.out; omega))
              have U3 := Lib.hid (pe_up (by have := ML.out; omega) hkb.1 hne U2.out KJ.out)
              have V3 := Lib.hid (pe_dn (by have := ML.out; omega) hkb.1 hne hkb.2.2 V2.out KK.out)
              have PV3 := Lib.hid (show (swp m kk (k - 1)).getD a 0 = l.getD p 0 by rw [swp_get (by have := ML.out; omega) (by have := ML.out; omega), if_neg (by omega), if_neg (by omega)]; exact PV.out)
              have D3 := Lib.hid hm3
              have O3 := Lib.hid ho3
              clear hm3 ho3
              go_wp2_with (first | (refine wpList_val rfl _ (exec_addn _ _ rfl (kk : Int) 1 ((kk + 1 : Nat) : Int) rfl rfl (by omega) (by omega)) ?_) | (refine wpList_val rfl _ (exec_subn _ _ rfl ((k : Int) - 1) 1 (((k - 1 : Nat) : Int) - 1) rfl rfl (by omega) (by omega)) ?_))
              go_roundw
              case rel =>
                exact ⟨kk + 1, k - 1, swp m kk (k - 1), rfl, rfl, by omega, U3.out, V3.out, D3.out, ⟨P3.out, PV3.out⟩, O3.out⟩
              case measure => simp [intOf]; omega
          · have hg : decide ((k : Int) - 1 < (kk : Int)) = true := decide_eq_true (by omega)
            go_wp2_with (refine wpList_val rfl _ (exec_gt _ _ rfl (kk : Int) ((k : Int) - 1) true rfl rfl hg) ?_)
            clear hg
            obtain rfl : kk = k := by omega
            go_ret
            refine ⟨kk, m, rfl, DM2.out, PM.out, by omega, fun q h1 h2 => ?_, fun q h1 h2 => ?_, OM2.out⟩
            · rw [← PV.out]
              by_cases e : q = a
              · rw [e]; exact Int.le_refl _
              · exact U2.out q (by omega) h2
            · rw [← PV.out]; exact V2.out q h1 h2
end Go.Proofs.YtnpbmihbmilkbaaGreat
