/- slices.partialInsertionSortOrdered at uint16. Written by wip/tools/srtS_r17.py. -/
import Derived.Test.YtnpbmihbmilkbaaGreatG01
import Derived.Test.YtnpbmihbmilkbaaGreatG32
import Derived.Deep.CutRange
import Derived.Deep.CutBlock
namespace Go.Proofs.YtnpbmihbmilkbaaGreat
open Go.RowKit
def Prd (l : List Int) (a b : Nat) : Prop := 0 < a → ∀ q, a ≤ q → q < b → l.getD (a - 1) 0 ≤ l.getD q 0
theorem pred_at {l m : List Int} {a b q : Nat} (h : Prd l a b) (hp : Per a b l m) (hq : a ≤ q ∧ q < b) (ha : 0 < a) : m.getD (a - 1) 0 ≤ m.getD q 0 := by
  rw [hp.out (.inl (by omega))]
  exact hp.all (Q := fun y => l.getD (a - 1) 0 ≤ y) (fun k h1 h2 => h ha k h1 h2) q hq.1 hq.2
theorem Prd.per {l m : List Int} {a b : Nat} (h : Prd l a b) (hp : Per a b l m) : Prd m a b := fun ha _ h1 h2 => pred_at h hp ⟨h1, h2⟩ ha
def GivesPi (B g n cap a b : Nat) (l : List Int) (w : World) (e : Ending) (w' : World) : Prop :=
  ∃ (t : Bool) (m : List Int), e = .returned (.bool t) ∧ OwnN w' B (.slice (some ⟨g, 0, none⟩) n cap) m ∧ Per a b l m ∧ (t = true → Sd m a b) ∧ Only g w w'
set_option maxRecDepth 100000 in
set_option maxHeartbeats 16000000 in
theorem partins_is (B g n cap a b : Nat) (l : List Int) (w : World) (h : OwnN w B (.slice (some ⟨g, 0, none⟩) n cap) l) (hb : b ≤ n) (hn : n ≤ 10000) (hab : a < b) (hpr : Prd l a b) :
    Calls Tryz.prog 79 #[(.slice (some ⟨g, 0, none⟩) n cap), .int .i64 (a : Int), .int .i64 (b : Int)] w (GivesPi B g n cap a b l w) := by
  have H := Lib.hid h
  have PR := Lib.hid hpr
  clear h hpr
  go_enter Tryz.func79, Tryz.ntmps79
  go_wp2_with (refine wpList_val rfl _ (exec_addn _ _ rfl (a : Int) 1 ((a + 1 : Nat) : Int) rfl rfl (by omega) (by omega)) ?_)
  go_loopw [7, 8] (fun i s wr => ∃ (k t : Nat) (m : List Int), i = .int .i64 (k : Int) ∧ s = .int .i64 (t : Int) ∧ (a + 1 ≤ k ∧ k ≤ b ∧ t ≤ 5) ∧ OwnN wr B (.slice (some ⟨g, 0, none⟩) n cap) m ∧ Per a b l m ∧ Sd m a k ∧ Only g w wr) (fun _ s _ => 6 - (intOf s).toNat)
  case atStart => exact ⟨a + 1, 0, l, rfl, rfl, by omega, H.out, .refl l, sd_small (Nat.le_refl _), Only.refl g w⟩
  case round =>
    obtain ⟨i0, t, m, rfl, rfl, hi0, hm, hp, hs, ho⟩ := hrel
    have DM := Lib.hid hm
    have PM := Lib.hid hp
    have SI := Lib.hid hs
    have OM := Lib.hid ho
    have ML := Lib.hid hm.len
    clear hm hp hs ho
    by_cases ht : t < 5
    · have hg0 : decide ((t : Int) < 5) = true := decide_eq_true (by omega)
      go_upto_block 2 with (refine wpList_val rfl _ (exec_lt _ _ rfl (t : Int) 5 true rfl rfl hg0) ?_)
      try simp only [Act.put, stA, stZ, stS]
      clear hg0
      go_cut [7] from 13 to 132 (fun i wc => ∃ k : Nat, i = .int .i64 (k : Int) ∧ (i0 ≤ k ∧ k ≤ b) ∧ Sd m a k ∧ (k = b ∨ m.getD k 0 < m.getD (k - 1) 0) ∧ OwnN wc B (.slice (some ⟨g, 0, none⟩) n cap) m ∧ Only g w wc)
      case first =>
        go_wp2_with fail
        go_loopw [7] (fun i wr => ∃ k : Nat, i = .int .i64 (k : Int) ∧ (i0 ≤ k ∧ k ≤ b) ∧ Sd m a k ∧ OwnN wr B (.slice (some ⟨g, 0, none⟩) n cap) m ∧ Only g w wr) (fun i _ => b + 1 - (intOf i).toNat)
        case atStart => exact ⟨i0, rfl, by omega, SI.out, DM.out, OM.out⟩
        case round =>
          obtain ⟨k, rfl, hk, hs, hm, ho⟩ := hrel
          have SK := Lib.hid hs
          have D := Lib.hid hm
          have OO := Lib.hid ho
          have S0 := Lib.hid (show Below wr.heap.size wr wr.drew from below_drew (Below.refl _ _))
          have DD := Lib.hid (D.out.below S0.out)
          have OD := Lib.hid (OO.out.trans (only_drew g wr))
          clear hs hm ho
          by_cases hlt : k < b
          · have hg1 : decide ((k : Int) < (b : Int)) = true := decide_eq_true (by omega)
            by_cases hc : m.getD (k - 1) 0 ≤ m.getD k 0
            · have HC := Lib.hid (show decide (m.getD k 0 < m.getD (k - 1) 0) = false from decide_eq_false (by omega))
              go_wp2_with fail
              refine wp_region_noPanic ?_
              refine wp_region_held_drew (S := fun W => Below wr.heap.size wr W) (by kernel_rfl) S0.out (fun _ => ?_)
              refine tkm 0 rfl S0.out ?_; try simp only [Act.put, stA, stZ, stS]
              refine tkm 1 rfl S0.out ?_; try simp only [Act.put, stA, stZ, stS]
              refine tkv 2 (.bool true) rfl (fun W hW => exec_lt (.tmp 17) (.tmp 18) rfl (k : Int) (b : Int) true rfl rfl (by first | assumption | exact decide_eq_true (by omega) | exact decide_eq_false (by omega))) S0.out ?_; try simp only [Act.put, stA, stZ, stS]
              refine tkm 3 rfl S0.out ?_; try simp only [Act.put, stA, stZ, stS]
              refine tkm 4 rfl S0.out ?_; try simp only [Act.put, stA, stZ, stS]
              refine tkm 5 rfl S0.out ?_; try simp only [Act.put, stA, stZ, stS]
              refine tkv 6 (.pointer (some ⟨g, k, none⟩)) rfl (fun W hW => exec_ixg Tryz.underlying24 (.tmp 21) (.tmp 22) rfl g n cap k (k : Int) rfl rfl (by omega) (by omega)) S0.out ?_; try simp only [Act.put, stA, stZ, stS]
              refine tkv 7 (.int .u64 (m.getD k 0)) rfl (fun W hW => exec_load_num (.tmp 23) rfl g k (m.getD k 0) rfl (OwnN.cell (D.out.below hW) (by have := D.out.len; omega))) S0.out ?_; try simp only [Act.put, stA, stZ, stS]
              refine tkm 8 rfl S0.out ?_; try simp only [Act.put, stA, stZ, stS]
              refine tkm 9 rfl S0.out ?_; try simp only [Act.put, stA, stZ, stS]
              refine tkv 10 (.int .i64 ((k - 1 : Nat) : Int)) rfl (fun W hW => exec_subn (.tmp 26) (.const (.int .i64 1)) rfl (k : Int) 1 ((k - 1 : Nat) : Int) rfl rfl (by omega) (by omega)) S0.out ?_; try simp only [Act.put, stA, stZ, stS]
              refine tkv 11 (.pointer (some ⟨g, (k - 1), none⟩)) rfl (fun W hW => exec_ixg Tryz.underlying24 (.tmp 25) (.tmp 27) rfl g n cap (k - 1) ((k - 1 : Nat) : Int) rfl rfl (by omega) (by omega)) S0.out ?_; try simp only [Act.put, stA, stZ, stS]
              refine tkv 12 (.int .u64 (m.getD (k - 1) 0)) rfl (fun W hW => exec_load_num (.tmp 28) rfl g (k - 1) (m.getD (k - 1) 0) rfl (OwnN.cell (D.out.below hW) (by have := D.out.len; omega))) S0.out ?_; try simp only [Act.put, stA, stZ, stS]
              refine rdy [13] ?_
              refine AllReadyH.cons (arR rfl) (fun K hK => ?_) AllReadyH.nil
              go_simp
              refine (less16_is _ _ false _ (Lib.hid (HC.out))).mono ?_
              rintro e wl ⟨rfl, rfl⟩
              go_wp2_with fail
              refine hK.out _ _ S0.out (fun _ => ?_)
              clear hK K
              try simp only [Act.put, stA, stZ, stS]
              refine tkm 14 rfl S0.out ?_; try simp only [Act.put, stA, stZ, stS]
              refine tkm 15 rfl S0.out ?_; try simp only [Act.put, stA, stZ, stS]
              refine wpAnyH_done (by kernel_rfl) ?_ _
              refine NoPanic.normal ?_
              go_wp2_with (refine wpList_val rfl _ (exec_addn _ _ rfl (k : Int) 1 ((k + 1 : Nat) : Int) rfl rfl (by omega) (by omega)) ?_)
              go_roundw
              case rel => exact ⟨k + 1, rfl, by omega, SK.out.snoc (by omega) hc, DD.out, OD.out⟩
              case measure => simp [intOf]; omega
            · have HC := Lib.hid (show decide (m.getD k 0 < m.getD (k - 1) 0) = true from decide_eq_true (by omega))
              go_wp2_with fail
              refine wp_region_noPanic ?_
              refine wp_region_held_drew (S := fun W => Below wr.heap.size wr W) (by kernel_rfl) S0.out (fun _ => ?_)
              refine tkm 0 rfl S0.out ?_; try simp only [Act.put, stA, stZ, stS]
              refine tkm 1 rfl S0.out ?_; try simp only [Act.put, stA, stZ, stS]
              refine tkv 2 (.bool true) rfl (fun W hW => exec_lt (.tmp 17) (.tmp 18) rfl (k : Int) (b : Int) true rfl rfl (by first | assumption | exact decide_eq_true (by omega) | exact decide_eq_false (by omega))) S0.out ?_; try simp only [Act.put, stA, stZ, stS]
              refine tkm 3 rfl S0.out ?_; try simp only [Act.put, stA, stZ, stS]
              refine tkm 4 rfl S0.out ?_; try simp only [Act.put, stA, stZ, stS]
              refine tkm 5 rfl S0.out ?_; try simp only [Act.put, stA, stZ, stS]
              refine tkv 6 (.pointer (some ⟨g, k, none⟩)) rfl (fun W hW => exec_ixg Tryz.underlying24 (.tmp 21) (.tmp 22) rfl g n cap k (k : Int) rfl rfl (by omega) (by omega)) S0.out ?_; try simp only [Act.put, stA, stZ, stS]
              refine tkv 7 (.int .u64 (m.getD k 0)) rfl (fun W hW => exec_load_num (.tmp 23) rfl g k (m.getD k 0) rfl (OwnN.cell (D.out.below hW) (by have := D.out.len; omega))) S0.out ?_; try simp only [Act.put, stA, stZ, stS]
              refine tkm 8 rfl S0.out ?_; try simp only [Act.put, stA, stZ, stS]
              refine tkm 9 rfl S0.out ?_; try simp only [Act.put, stA, stZ, stS]
              refine tkv 10 (.int .i64 ((k - 1 : Nat) : Int)) rfl (fun W hW => exec_subn (.tmp 26) (.const (.int .i64 1)) rfl (k : Int) 1 ((k - 1 : Nat) : Int) rfl rfl (by omega) (by omega)) S0.out ?_; try simp only [Act.put, stA, stZ, stS]
              refine tkv 11 (.pointer (some ⟨g, (k - 1), none⟩)) rfl (fun W hW => exec_ixg Tryz.underlying24 (.tmp 25) (.tmp 27) rfl g n cap (k - 1) ((k - 1 : Nat) : Int) rfl rfl (by omega) (by omega)) S0.out ?_; try simp only [Act.put, stA, stZ, stS]
              refine tkv 12 (.int .u64 (m.getD (k - 1) 0)) rfl (fun W hW => exec_load_num (.tmp 28) rfl g (k - 1) (m.getD (k - 1) 0) rfl (OwnN.cell (D.out.below hW) (by have := D.out.len; omega))) S0.out ?_; try simp only [Act.put, stA, stZ, stS]
              refine rdy [13] ?_
              refine AllReadyH.cons (arR rfl) (fun K hK => ?_) AllReadyH.nil
              go_simp
              refine (less16_is _ _ true _ (Lib.hid (HC.out))).mono ?_
              rintro e wl ⟨rfl, rfl⟩
              go_wp2_with fail
              refine hK.out _ _ S0.out (fun _ => ?_)
              clear hK K
              try simp only [Act.put, stA, stZ, stS]
              refine tkm 14 rfl S0.out ?_; try simp only [Act.put, stA, stZ, stS]
              refine tkm 15 rfl S0.out ?_; try simp only [Act.put, stA, stZ, stS]
              refine wpAnyH_done (by kernel_rfl) ?_ _
              refine NoPanic.normal ?_
              go_wp2_with fail
              go_meet
              case rel => exact ⟨k, rfl, by omega, SK.out, .inr (by omega), DD.out, OD.out⟩
          · have hg1 : decide ((k : Int) < (b : Int)) = false := decide_eq_false (by omega)
            go_wp2_with fail
            refine wp_region_noPanic ?_
            refine wp_region_held_drew (S := fun W => Below wr.heap.size wr W) (by kernel_rfl) S0.out (fun _ => ?_)
            refine tkm 0 rfl S0.out ?_; try simp only [Act.put, stA, stZ, stS]
            refine tkm 1 rfl S0.out ?_; try simp only [Act.put, stA, stZ, stS]
            refine tkv 2 (.bool false) rfl (fun W hW => exec_lt (.tmp 17) (.tmp 18) rfl (k : Int) (b : Int) false rfl rfl (by first | assumption | exact decide_eq_true (by omega) | exact decide_eq_false (by omega))) S0.out ?_; try simp only [Act.put, stA, stZ, stS]
            refine tkm 3 rfl S0.out ?_; try simp only [Act.put, stA, stZ, stS]
            refine tks 4 rfl S0.out ?_; try simp only [Act.put, stA, stZ, stS]
            refine tks 5 rfl S0.out ?_; try simp only [Act.put, stA, stZ, stS]
            refine tks 6 rfl S0.out ?_; try simp only [Act.put, stA, stZ, stS]
            refine tks 7 rfl S0.out ?_; try simp only [Act.put, stA, stZ, stS]
            refine tks 8 rfl S0.out ?_; try simp only [Act.put, stA, stZ, stS]
            refine tks 9 rfl S0.out ?_; try simp only [Act.put, stA, stZ, stS]
            refine tks 10 rfl S0.out ?_; try simp only [Act.put, stA, stZ, stS]
            refine tks 11 rfl S0.out ?_; try simp only [Act.put, stA, stZ, stS]
            refine tks 12 rfl S0.out ?_; try simp only [Act.put, stA, stZ, stS]
            refine tks 13 rfl S0.out ?_; try simp only [Act.put, stA, stZ, stS]
            refine tks 14 rfl S0.out ?_; try simp only [Act.put, stA, stZ, stS]
            refine tkm 15 rfl S0.out ?_; try simp only [Act.put, stA, stZ, stS]
            refine wpAnyH_done (by kernel_rfl) ?_ _
            refine NoPanic.normal ?_
            go_wp2_with fail
            go_meet
            case rel => exact ⟨k, rfl, by omega, SK.out, .inl (by omega), DD.out, OD.out⟩
      case rest =>
        obtain ⟨k, rfl, hk, hsk, hst, hm, ho⟩ := hcut
        have SK := Lib.hid hsk
        have ST := Lib.hid hst
        have DK := Lib.hid hm
        have OK := Lib.hid ho
        clear hsk hst hm ho DM OM SI
        by_cases hkb : k = b
        · subst hkb
          go_wp2_with fail
          go_ret
          exact ⟨true, m, rfl, DK.out, PM.out, fun _ => SK.out, OK.out⟩
        · have hkn : ((k : Int) == (b : Int)) = false := beq_eq_false_iff_ne.2 (by omega)
          have hkl : k < b := by omega
          have LK := Lib.hid (show m.getD k 0 < m.getD (k - 1) 0 by
            rcases ST.out with e | e
            · exact absurd e hkb
            · exact e)
          by_cases h50 : b - a < 50
          · have hg3 : decide (((b - a : Nat) : Int) < 50) = true := decide_eq_true (by omega)
            go_wp2_with (first | (refine wpList_val rfl _ (exec_subn _ _ rfl (b : Int) (a : Int) ((b - a : Nat) : Int) rfl rfl (by omega) (by omega)) ?_) | (refine wpList_val rfl _ (exec_lt _ _ rfl ((b - a : Nat) : Int) 50 true rfl rfl hg3) ?_))
            go_ret
            exact ⟨false, m, rfl, DK.out, PM.out, (fun e => by cases e), OK.out⟩
          · have hg3 : decide (((b - a : Nat) : Int) < 50) = false := decide_eq_false (by omega)
            go_wp2_with (first | (refine wpList_val rfl _ (exec_subn _ _ rfl (b : Int) (a : Int) ((b - a : Nat) : Int) rfl rfl (by omega) (by omega)) ?_) | (refine wpList_val rfl _ (exec_lt _ _ rfl ((b - a : Nat) : Int) 50 false rfl rfl hg3) ?_))
            try simp only [Act.put, stA, stZ, stS]
            clear hg3 hkb hkn
            go_cut [] from 13 to 132 (fun wc => OwnN wc B (.slice (some ⟨g, 0, none⟩) n cap) (swp m k (k - 1)) ∧ Only g w wc)
            case first =>
              have E1 := Lib.hid (DK.out.below (below_drew (Below.refl _ _)))
              refine wp_region_noPanic ?_
              refine wp_region_held_drew (S := fun _ => True) (by kernel_rfl) trivial (fun _ => ?_)
              refine tkm 0 rfl trivial ?_; try simp only [Act.put, stA, stZ, stS]
              refine tkm 1 rfl trivial ?_; try simp only [Act.put, stA, stZ, stS]
              refine tkm 2 rfl trivial ?_; try simp only [Act.put, stA, stZ, stS]
              refine tkm 3 rfl trivial ?_; try simp only [Act.put, stA, stZ, stS]
              refine tkv 4 (.int .i64 ((k - 1 : Nat) : Int)) rfl (fun W hW => exec_subn (.tmp 45) (.const (.int .i64 1)) rfl (k : Int) 1 ((k - 1 : Nat) : Int) rfl rfl (by omega) (by omega)) trivial ?_; try simp only [Act.put, stA, stZ, stS]
              refine tkm 5 rfl trivial ?_; try simp only [Act.put, stA, stZ, stS]
              refine tkm 6 rfl trivial ?_; try simp only [Act.put, stA, stZ, stS]
              refine tkv 7 (.int .i64 ((k - 1 : Nat) : Int)) rfl (fun W hW => exec_subn (.tmp 48) (.const (.int .i64 1)) rfl (k : Int) 1 ((k - 1 : Nat) : Int) rfl rfl (by omega) (by omega)) trivial ?_; try simp only [Act.put, stA, stZ, stS]
              refine tkv 8 (.pointer (some ⟨g, (k - 1), none⟩)) rfl (fun W hW => exec_ixg Tryz.underlying24 (.tmp 47) (.tmp 49) rfl g n cap (k - 1) ((k - 1 : Nat) : Int) rfl rfl (by omega) (by omega)) trivial ?_; try simp only [Act.put, stA, stZ, stS]
              refine tkm 10 rfl trivial ?_; try simp only [Act.put, stA, stZ, stS]
              refine tkm 11 rfl trivial ?_; try simp only [Act.put, stA, stZ, stS]
              refine tkv 12 (.pointer (some ⟨g, k, none⟩)) rfl (fun W hW => exec_ixg Tryz.underlying24 (.tmp 52) (.tmp 53) rfl g n cap k (k : Int) rfl rfl (by omega) (by omega)) trivial ?_; try simp only [Act.put, stA, stZ, stS]
              refine rdy [9, 13] ?_
              refine ready_val (arR rfl) rfl (.int .u64 (m.getD (k - 1) 0)) _ (exec_load_num (.tmp 50) rfl g (k - 1) (m.getD (k - 1) 0) rfl (E1.out.cell (by have := E1.out.len; omega))) ⟨trivial, ?_⟩ ?_
              · try simp only [Act.put, stA, stZ, stS]
                refine rdy [13] ?_
                refine ready_val (arR rfl) rfl (.int .u64 (m.getD k 0)) _ (exec_load_num (.tmp 54) rfl g k (m.getD k 0) rfl (E1.out.cell (by have := E1.out.len; omega))) ⟨trivial, ?_⟩ AllReadyH.nil
                try simp only [Act.put, stA, stZ, stS]
                refine tkv 14 (.pointer (some ⟨g, k, none⟩)) rfl (fun W hW => exec_ixg Tryz.underlying24 (.tmp 42) (.tmp 43) rfl g n cap k (k : Int) rfl rfl (by omega) (by omega)) trivial ?_; try simp only [Act.put, stA, stZ, stS]
                refine rdy [15] ?_
                refine ready_skip (arR rfl) rfl _ (exec_store_num (.tmp 56) (.tmp 51) rfl g k (m.getD (k - 1) 0) (.int .u64 (m.getD k 0)) rfl rfl (E1.out.cell (by have := E1.out.len; omega)) (E1.out.fz k)) ⟨trivial, ?_⟩ AllReadyH.nil
                have D1 := Lib.hid (E1.out.set k (m.getD (k - 1) 0) (E1.out.ok.at_ (k - 1)))
                skip
                try simp only [Act.put]
                refine tkv 16 (.pointer (some ⟨g, (k - 1), none⟩)) rfl (fun W hW => exec_ixg Tryz.underlying24 (.tmp 44) (.tmp 46) rfl g n cap (k - 1) ((k - 1 : Nat) : Int) rfl rfl (by omega) (by omega)) trivial ?_; try simp only [Act.put, stA, stZ, stS]
                refine rdy [17] ?_
                refine ready_skip (arR rfl) rfl _ (exec_store_num (.tmp 57) (.tmp 55) rfl g (k - 1) (m.getD k 0) (.int .u64 ((m.set k (m.getD (k - 1) 0)).getD (k - 1) 0)) rfl rfl (D1.out.cell (by have := D1.out.len; omega)) (D1.out.fz (k - 1))) ⟨trivial, ?_⟩ AllReadyH.nil
                have D2 := Lib.hid (D1.out.set (k - 1) (m.getD k 0) (E1.out.ok.at_ k))
                try simp only [Act.put]
                refine wpAnyH_done (by kernel_rfl) ?_ _
                refine NoPanic.normal ?_
                go_wp2_with fail
                go_meet
                case rel => exact ⟨D2.out, ((OK.out.trans (only_drew g _)).trans (Only.set g k _ _)).trans (Only.set g (k - 1) _ _)⟩
              refine ready_val (arR rfl) rfl (.int .u64 (m.getD k 0)) _ (exec_load_num (.tmp 54) rfl g k (m.getD k 0) rfl (E1.out.cell (by have := E1.out.len; omega))) ⟨trivial, ?_⟩ AllReadyH.nil
              try simp only [Act.put, stA, stZ, stS]
              refine rdy [9] ?_
              refine ready_val (arR rfl) rfl (.int .u64 (m.getD (k - 1) 0)) _ (exec_load_num (.tmp 50) rfl g (k - 1) (m.getD (k - 1) 0) rfl (E1.out.cell (by have := E1.out.len; omega))) ⟨trivial, ?_⟩ AllReadyH.nil
              try simp only [Act.put, stA, stZ, stS]
              refine tkv 14 (.pointer (some ⟨g, k, none⟩)) rfl (fun W hW => exec_ixg Tryz.underlying24 (.tmp 42) (.tmp 43) rfl g n cap k (k : Int) rfl rfl (by omega) (by omega)) trivial ?_; try simp only [Act.put, stA, stZ, stS]
              refine rdy [15] ?_
              refine ready_skip (arR rfl) rfl _ (exec_store_num (.tmp 56) (.tmp 51) rfl g k (m.getD (k - 1) 0) (.int .u64 (m.getD k 0)) rfl rfl (E1.out.cell (by have := E1.out.len; omega)) (E1.out.fz k)) ⟨trivial, ?_⟩ AllReadyH.nil
              have D1 := Lib.hid (E1.out.set k (m.getD (k - 1) 0) (E1.out.ok.at_ (k - 1)))
              skip
              try simp only [Act.put]
              refine tkv 16 (.pointer (some ⟨g, (k - 1), none⟩)) rfl (fun W hW => exec_ixg Tryz.underlying24 (.tmp 44) (.tmp 46) rfl g n cap (k - 1) ((k - 1 : Nat) : Int) rfl rfl (by omega) (by omega)) trivial ?_; try simp only [Act.put, stA, stZ, stS]
              refine rdy [17] ?_
              refine ready_skip (arR rfl) rfl _ (exec_store_num (.tmp 57) (.tmp 55) rfl g (k - 1) (m.getD k 0) (.int .u64 ((m.set k (m.getD (k - 1) 0)).getD (k - 1) 0)) rfl rfl (D1.out.cell (by have := D1.out.len; omega)) (D1.out.fz (k - 1))) ⟨trivial, ?_⟩ AllReadyH.nil
              have D2 := Lib.hid (D1.out.set (k - 1) (m.getD k 0) (E1.out.ok.at_ k))
              try simp only [Act.put]
              refine wpAnyH_done (by kernel_rfl) ?_ _
              refine NoPanic.normal ?_
              go_wp2_with fail
              go_meet
              case rel => exact ⟨D2.out, ((OK.out.trans (only_drew g _)).trans (Only.set g k _ _)).trans (Only.set g (k - 1) _ _)⟩
            case rest =>
              obtain ⟨hm, ho⟩ := hcut
              obtain ⟨m1, em1⟩ : ∃ z, z = swp m k (k - 1) := ⟨_, rfl⟩
              have P1 := Lib.hid (show Per a b l m1 by rw [em1]; exact .swap PM.out (by omega) (by omega) (by omega) (by omega) (by have := ML.out; omega))
              have S1 := Lib.hid (show Sd m1 a (k - 1) by
                rw [em1]
                exact (SK.out.mono (Nat.le_refl _) (by omega)).eqv fun q h1 h2 => by rw [swp_get (by have := ML.out; omega) (by have := ML.out; omega), if_neg (by omega), if_neg (by omega)])
              rw [← em1] at hm
              have D1 := Lib.hid hm
              have O1 := Lib.hid ho
              clear hm ho em1 DK OK SK LK
              obtain ⟨b1, hb1⟩ : ∃ z, decide ((2 : Int) ≤ ((k - a : Nat) : Int)) = z := ⟨_, rfl⟩
              have HB1 := Lib.hid hb1
              clear hb1
              go_upto_if 61 with (first | (refine wpList_val rfl _ (exec_subn _ _ rfl (k : Int) (a : Int) ((k - a : Nat) : Int) rfl rfl (by omega) (by omega)) ?_) | (refine wpList_val rfl _ (exec_ge _ _ rfl ((k - a : Nat) : Int) 2 b1 rfl rfl HB1.out) ?_))
              try simp only [Act.put, stA, stZ, stS]
              go_cut [] from 13 to 132 (fun wc => ∃ m : List Int, OwnN wc B (.slice (some ⟨g, 0, none⟩) n cap) m ∧ Per a b l m ∧ Sd m a k ∧ Only g w wc)
              case first =>
                cases b1 with
                | false =>
                  have hka : k - a < 2 := by have := of_decide_eq_false HB1.out; omega
                  go_wp2_with fail
                  go_meet
                  case rel => exact ⟨m1, D1.out, P1.out, sd_small (by omega), O1.out⟩
                | true =>
                  go_wp2_with (refine wpList_val rfl _ (exec_subn _ _ rfl (k : Int) 1 ((k - 1 : Nat) : Int) rfl rfl (by omega) (by omega)) ?_)
                  go_loopw [9] (fun t wr => ∃ (j : Nat) (m : List Int), t = .int .i64 (j : Int) ∧ (a ≤ j ∧ j + 1 ≤ k) ∧ OwnN wr B (.slice (some ⟨g, 0, none⟩) n cap) m ∧ Per a b l m ∧ InsI m a (k - 1) j ∧ Only g w wr) (fun t _ => (intOf t).toNat)
                  case atStart => exact ⟨k - 1, m1, rfl, by omega, D1.out, P1.out, ins_start S1.out, O1.out⟩
                  case round =>
                    obtain ⟨j, m, rfl, hj, hm, hp, hi, ho⟩ := hrel
                    have D := Lib.hid hm
                    have PJ := Lib.hid hp
                    have IJ := Lib.hid hi
                    have OO := Lib.hid ho
                    have ML := Lib.hid hm.len
                    have S0 := Lib.hid (show Below wr.heap.size wr wr.drew from below_drew (Below.refl _ _))
                    have DD := Lib.hid (D.out.below S0.out)
                    have OD := Lib.hid (OO.out.trans (only_drew g wr))
                    clear hm hp hi ho
                    by_cases hj1 : 1 ≤ j
                    · have hg2 : decide ((1 : Int) ≤ (j : Int)) = true := decide_eq_true (by omega)
                      go_wp2_with (refine wpList_val rfl _ (exec_ge _ _ rfl (j : Int) 1 true rfl rfl hg2) ?_)
                      clear hg2
                      by_cases hc : m.getD j 0 < m.getD (j - 1) 0
                      · have hja : a < j := by
                          by_cases e : j = a
                          · have := pred_at (q := a) PR.out PJ.out (by omega) (by omega : 0 < a)
                            rw [e] at hc; omega
                          · omega
                        have HC := Lib.hid (decide_eq_true hc)
                        refine wp_region_noPanic ?_
                        refine wp_region_held_drew (S := fun W => Below wr.heap.size wr W) (by kernel_rfl) S0.out (fun _ => ?_)
                        refine tkm 0 rfl S0.out ?_; try simp only [Act.put, stA, stZ, stS]
                        refine tkm 1 rfl S0.out ?_; try simp only [Act.put, stA, stZ, stS]
                        refine tkv 2 (.pointer (some ⟨g, j, none⟩)) rfl (fun W hW => exec_ixg Tryz.underlying24 (.tmp 68) (.tmp 69) rfl g n cap j (j : Int) rfl rfl (by omega) (by omega)) S0.out ?_; try simp only [Act.put, stA, stZ, stS]
                        refine tkv 3 (.int .u64 (m.getD j 0)) rfl (fun W hW => exec_load_num (.tmp 70) rfl g j (m.getD j 0) rfl (OwnN.cell (D.out.below hW) (by have := D.out.len; omega))) S0.out ?_; try simp only [Act.put, stA, stZ, stS]
                        refine tkm 4 rfl S0.out ?_; try simp only [Act.put, stA, stZ, stS]
                        refine tkm 5 rfl S0.out ?_; try simp only [Act.put, stA, stZ, stS]
                        refine tkv 6 (.int .i64 ((j - 1 : Nat) : Int)) rfl (fun W hW => exec_subn (.tmp 73) (.const (.int .i64 1)) rfl (j : Int) 1 ((j - 1 : Nat) : Int) rfl rfl (by omega) (by omega)) S0.out ?_; try simp only [Act.put, stA, stZ, stS]
                        refine tkv 7 (.pointer (some ⟨g, (j - 1), none⟩)) rfl (fun W hW => exec_ixg Tryz.underlying24 (.tmp 72) (.tmp 74) rfl g n cap (j - 1) ((j - 1 : Nat) : Int) rfl rfl (by omega) (by omega)) S0.out ?_; try simp only [Act.put, stA, stZ, stS]
                        refine tkv 8 (.int .u64 (m.getD (j - 1) 0)) rfl (fun W hW => exec_load_num (.tmp 75) rfl g (j - 1) (m.getD (j - 1) 0) rfl (OwnN.cell (D.out.below hW) (by have := D.out.len; omega))) S0.out ?_; try simp only [Act.put, stA, stZ, stS]
                        refine rdy [9] ?_
                        refine AllReadyH.cons (arR rfl) (fun K hK => ?_) AllReadyH.nil
                        go_simp
                        refine (less16_is _ _ true _ (Lib.hid (HC.out))).mono ?_
                        rintro e wl ⟨rfl, rfl⟩
                        go_wp2_with fail
                        refine hK.out _ _ S0.out (fun _ => ?_)
                        clear hK K
                        try simp only [Act.put, stA, stZ, stS]
                        refine tkm 10 rfl S0.out ?_; try simp only [Act.put, stA, stZ, stS]
                        refine wpAnyH_done (by kernel_rfl) ?_ _
                        refine NoPanic.normal ?_
                        go_wp2_with fail
                        have E1 := Lib.hid (DD.out.below (below_drew (Below.refl _ _)))
                        refine wp_region_noPanic ?_
                        refine wp_region_held_drew (S := fun _ => True) (by kernel_rfl) trivial (fun _ => ?_)
                        refine tkm 0 rfl trivial ?_; try simp only [Act.put, stA, stZ, stS]
                        refine tkm 1 rfl trivial ?_; try simp only [Act.put, stA, stZ, stS]
                        refine tkm 2 rfl trivial ?_; try simp only [Act.put, stA, stZ, stS]
                        refine tkm 3 rfl trivial ?_; try simp only [Act.put, stA, stZ, stS]
                        refine tkv 4 (.int .i64 ((j - 1 : Nat) : Int)) rfl (fun W hW => exec_subn (.tmp 82) (.const (.int .i64 1)) rfl (j : Int) 1 ((j - 1 : Nat) : Int) rfl rfl (by omega) (by omega)) trivial ?_; try simp only [Act.put, stA, stZ, stS]
                        refine tkm 5 rfl trivial ?_; try simp only [Act.put, stA, stZ, stS]
                        refine tkm 6 rfl trivial ?_; try simp only [Act.put, stA, stZ, stS]
                        refine tkv 7 (.int .i64 ((j - 1 : Nat) : Int)) rfl (fun W hW => exec_subn (.tmp 85) (.const (.int .i64 1)) rfl (j : Int) 1 ((j - 1 : Nat) : Int) rfl rfl (by omega) (by omega)) trivial ?_; try simp only [Act.put, stA, stZ, stS]
                        refine tkv 8 (.pointer (some ⟨g, (j - 1), none⟩)) rfl (fun W hW => exec_ixg Tryz.underlying24 (.tmp 84) (.tmp 86) rfl g n cap (j - 1) ((j - 1 : Nat) : Int) rfl rfl (by omega) (by omega)) trivial ?_; try simp only [Act.put, stA, stZ, stS]
                        refine tkm 10 rfl trivial ?_; try simp only [Act.put, stA, stZ, stS]
                        refine tkm 11 rfl trivial ?_; try simp only [Act.put, stA, stZ, stS]
                        refine tkv 12 (.pointer (some ⟨g, j, none⟩)) rfl (fun W hW => exec_ixg Tryz.underlying24 (.tmp 89) (.tmp 90) rfl g n cap j (j : Int) rfl rfl (by omega) (by omega)) trivial ?_; try simp only [Act.put, stA, stZ, stS]
                        refine rdy [9, 13] ?_
                        refine ready_val (arR rfl) rfl (.int .u64 (m.getD (j - 1) 0)) _ (exec_load_num (.tmp 87) rfl g (j - 1) (m.getD (j - 1) 0) rfl (E1.out.cell (by have := E1.out.len; omega))) ⟨trivial, ?_⟩ ?_
                        · try simp only [Act.put, stA, stZ, stS]
                          refine rdy [13] ?_
                          refine ready_val (arR rfl) rfl (.int .u64 (m.getD j 0)) _ (exec_load_num (.tmp 91) rfl g j (m.getD j 0) rfl (E1.out.cell (by have := E1.out.len; omega))) ⟨trivial, ?_⟩ AllReadyH.nil
                          try simp only [Act.put, stA, stZ, stS]
                          refine tkv 14 (.pointer (some ⟨g, j, none⟩)) rfl (fun W hW => exec_ixg Tryz.underlying24 (.tmp 79) (.tmp 80) rfl g n cap j (j : Int) rfl rfl (by omega) (by omega)) trivial ?_; try simp only [Act.put, stA, stZ, stS]
                          refine rdy [15] ?_
                          refine ready_skip (arR rfl) rfl _ (exec_store_num (.tmp 93) (.tmp 88) rfl g j (m.getD (j - 1) 0) (.int .u64 (m.getD j 0)) rfl rfl (E1.out.cell (by have := E1.out.len; omega)) (E1.out.fz j)) ⟨trivial, ?_⟩ AllReadyH.nil
                          have D1 := Lib.hid (E1.out.set j (m.getD (j - 1) 0) (E1.out.ok.at_ (j - 1)))
                          skip
                          try simp only [Act.put]
                          refine tkv 16 (.pointer (some ⟨g, (j - 1), none⟩)) rfl (fun W hW => exec_ixg Tryz.underlying24 (.tmp 81) (.tmp 83) rfl g n cap (j - 1) ((j - 1 : Nat) : Int) rfl rfl (by omega) (by omega)) trivial ?_; try simp only [Act.put, stA, stZ, stS]
                          refine rdy [17] ?_
                          refine ready_skip (arR rfl) rfl _ (exec_store_num (.tmp 94) (.tmp 92) rfl g (j - 1) (m.getD j 0) (.int .u64 ((m.set j (m.getD (j - 1) 0)).getD (j - 1) 0)) rfl rfl (D1.out.cell (by have := D1.out.len; omega)) (D1.out.fz (j - 1))) ⟨trivial, ?_⟩ AllReadyH.nil
                          have D2 := Lib.hid (D1.out.set (j - 1) (m.getD j 0) (E1.out.ok.at_ j))
                          try simp only [Act.put]
                          refine wpAnyH_done (by kernel_rfl) ?_ _
                          refine NoPanic.normal ?_
                          go_wp2_with (refine wpList_val rfl _ (exec_subn _ _ rfl (j : Int) 1 ((j - 1 : Nat) : Int) rfl rfl (by omega) (by omega)) ?_)
                          go_roundw
                          case rel => exact ⟨j - 1, swp m j (j - 1), rfl, by omega, D2.out, .swap PJ.out (by omega) (by omega) (by omega) (by omega) (by have := ML.out; omega), ins_step IJ.out hja (by omega) (by have := ML.out; omega) hc, ((OD.out.trans (only_drew g _)).trans (Only.set g j _ _)).trans (Only.set g (j - 1) _ _)⟩
                          case measure => simp [intOf]; omega
                        refine ready_val (arR rfl) rfl (.int .u64 (m.getD j 0)) _ (exec_load_num (.tmp 91) rfl g j (m.getD j 0) rfl (E1.out.cell (by have := E1.out.len; omega))) ⟨trivial, ?_⟩ AllReadyH.nil
                        try simp only [Act.put, stA, stZ, stS]
                        refine rdy [9] ?_
                        refine ready_val (arR rfl) rfl (.int .u64 (m.getD (j - 1) 0)) _ (exec_load_num (.tmp 87) rfl g (j - 1) (m.getD (j - 1) 0) rfl (E1.out.cell (by have := E1.out.len; omega))) ⟨trivial, ?_⟩ AllReadyH.nil
                        try simp only [Act.put, stA, stZ, stS]
                        refine tkv 14 (.pointer (some ⟨g, j, none⟩)) rfl (fun W hW => exec_ixg Tryz.underlying24 (.tmp 79) (.tmp 80) rfl g n cap j (j : Int) rfl rfl (by omega) (by omega)) trivial ?_; try simp only [Act.put, stA, stZ, stS]
                        refine rdy [15] ?_
                        refine ready_skip (arR rfl) rfl _ (exec_store_num (.tmp 93) (.tmp 88) rfl g j (m.getD (j - 1) 0) (.int .u64 (m.getD j 0)) rfl rfl (E1.out.cell (by have := E1.out.len; omega)) (E1.out.fz j)) ⟨trivial, ?_⟩ AllReadyH.nil
                        have D1 := Lib.hid (E1.out.set j (m.getD (j - 1) 0) (E1.out.ok.at_ (j - 1)))
                        skip
                        try simp only [Act.put]
                        refine tkv 16 (.pointer (some ⟨g, (j - 1), none⟩)) rfl (fun W hW => exec_ixg Tryz.underlying24 (.tmp 81) (.tmp 83) rfl g n cap (j - 1) ((j - 1 : Nat) : Int) rfl rfl (by omega) (by omega)) trivial ?_; try simp only [Act.put, stA, stZ, stS]
                        refine rdy [17] ?_
                        refine ready_skip (arR rfl) rfl _ (exec_store_num (.tmp 94) (.tmp 92) rfl g (j - 1) (m.getD j 0) (.int .u64 ((m.set j (m.getD (j - 1) 0)).getD (j - 1) 0)) rfl rfl (D1.out.cell (by have := D1.out.len; omega)) (D1.out.fz (j - 1))) ⟨trivial, ?_⟩ AllReadyH.nil
                        have D2 := Lib.hid (D1.out.set (j - 1) (m.getD j 0) (E1.out.ok.at_ j))
                        try simp only [Act.put]
                        refine wpAnyH_done (by kernel_rfl) ?_ _
                        refine NoPanic.normal ?_
                        go_wp2_with (refine wpList_val rfl _ (exec_subn _ _ rfl (j : Int) 1 ((j - 1 : Nat) : Int) rfl rfl (by omega) (by omega)) ?_)
                        go_roundw
                        case rel => exact ⟨j - 1, swp m j (j - 1), rfl, by omega, D2.out, .swap PJ.out (by omega) (by omega) (by omega) (by omega) (by have := ML.out; omega), ins_step IJ.out hja (by omega) (by have := ML.out; omega) hc, ((OD.out.trans (only_drew g _)).trans (Only.set g j _ _)).trans (Only.set g (j - 1) _ _)⟩
                        case measure => simp [intOf]; omega
                      · have HC := Lib.hid (decide_eq_false hc)
                        refine wp_region_noPanic ?_
                        refine wp_region_held_drew (S := fun W => Below wr.heap.size wr W) (by kernel_rfl) S0.out (fun _ => ?_)
                        refine tkm 0 rfl S0.out ?_; try simp only [Act.put, stA, stZ, stS]
                        refine tkm 1 rfl S0.out ?_; try simp only [Act.put, stA, stZ, stS]
                        refine tkv 2 (.pointer (some ⟨g, j, none⟩)) rfl (fun W hW => exec_ixg Tryz.underlying24 (.tmp 68) (.tmp 69) rfl g n cap j (j : Int) rfl rfl (by omega) (by omega)) S0.out ?_; try simp only [Act.put, stA, stZ, stS]
                        refine tkv 3 (.int .u64 (m.getD j 0)) rfl (fun W hW => exec_load_num (.tmp 70) rfl g j (m.getD j 0) rfl (OwnN.cell (D.out.below hW) (by have := D.out.len; omega))) S0.out ?_; try simp only [Act.put, stA, stZ, stS]
                        refine tkm 4 rfl S0.out ?_; try simp only [Act.put, stA, stZ, stS]
                        refine tkm 5 rfl S0.out ?_; try simp only [Act.put, stA, stZ, stS]
                        refine tkv 6 (.int .i64 ((j - 1 : Nat) : Int)) rfl (fun W hW => exec_subn (.tmp 73) (.const (.int .i64 1)) rfl (j : Int) 1 ((j - 1 : Nat) : Int) rfl rfl (by omega) (by omega)) S0.out ?_; try simp only [Act.put, stA, stZ, stS]
                        refine tkv 7 (.pointer (some ⟨g, (j - 1), none⟩)) rfl (fun W hW => exec_ixg Tryz.underlying24 (.tmp 72) (.tmp 74) rfl g n cap (j - 1) ((j - 1 : Nat) : Int) rfl rfl (by omega) (by omega)) S0.out ?_; try simp only [Act.put, stA, stZ, stS]
                        refine tkv 8 (.int .u64 (m.getD (j - 1) 0)) rfl (fun W hW => exec_load_num (.tmp 75) rfl g (j - 1) (m.getD (j - 1) 0) rfl (OwnN.cell (D.out.below hW) (by have := D.out.len; omega))) S0.out ?_; try simp only [Act.put, stA, stZ, stS]
                        refine rdy [9] ?_
                        refine AllReadyH.cons (arR rfl) (fun K hK => ?_) AllReadyH.nil
                        go_simp
                        refine (less16_is _ _ false _ (Lib.hid (HC.out))).mono ?_
                        rintro e wl ⟨rfl, rfl⟩
                        go_wp2_with fail
                        refine hK.out _ _ S0.out (fun _ => ?_)
                        clear hK K
                        try simp only [Act.put, stA, stZ, stS]
                        refine tkm 10 rfl S0.out ?_; try simp only [Act.put, stA, stZ, stS]
                        refine wpAnyH_done (by kernel_rfl) ?_ _
                        refine NoPanic.normal ?_
                        go_wp2_with fail
                        go_meet
                        case rel => exact ⟨m, DD.out, PJ.out, by have := ins_end IJ.out hj.1 (by omega) (.inr (by omega)); rwa [show k - 1 + 1 = k by omega] at this, OD.out⟩
                    · have hg2 : decide ((1 : Int) ≤ (j : Int)) = false := decide_eq_false (by omega)
                      go_wp2_with (refine wpList_val rfl _ (exec_ge _ _ rfl (j : Int) 1 false rfl rfl hg2) ?_)
                      go_meet
                      case rel => exact ⟨m, D.out, PJ.out, by have := ins_end IJ.out hj.1 (by omega) (.inl (by omega)); rwa [show k - 1 + 1 = k by omega] at this, OO.out⟩
              case rest =>
                obtain ⟨m2, hm, hp2, hs2, ho⟩ := hcut
                have D2 := Lib.hid hm
                have P2 := Lib.hid hp2
                have S2 := Lib.hid hs2
                have O2 := Lib.hid ho
                clear hm hp2 hs2 ho D1 O1 P1 S1 HB1
                obtain ⟨b2, hb2⟩ : ∃ z, decide ((2 : Int) ≤ ((b - k : Nat) : Int)) = z := ⟨_, rfl⟩
                have HB2 := Lib.hid hb2
                clear hb2
                go_upto_if 98 with (first | (refine wpList_val rfl _ (exec_subn _ _ rfl (b : Int) (k : Int) ((b - k : Nat) : Int) rfl rfl (by omega) (by omega)) ?_) | (refine wpList_val rfl _ (exec_ge _ _ rfl ((b - k : Nat) : Int) 2 b2 rfl rfl HB2.out) ?_))
                try simp only [Act.put, stA, stZ, stS]
                cases b2 with
                | false =>
                  go_wp2_with (refine wpList_val rfl _ (exec_addn _ _ rfl (t : Int) 1 ((t + 1 : Nat) : Int) rfl rfl (by omega) (by omega)) ?_)
                  go_roundw
                  case rel => exact ⟨k, t + 1, m2, rfl, rfl, by omega, D2.out, P2.out, S2.out, O2.out⟩
                  case measure => simp [intOf]; omega
                | true =>
                  have hbk : k + 1 < b := by have := of_decide_eq_true HB2.out; omega
                  go_wp2_with (refine wpList_val rfl _ (exec_addn _ _ rfl (k : Int) 1 ((k + 1 : Nat) : Int) rfl rfl (by omega) (by omega)) ?_)
                  go_loopw [10] (fun t wr => ∃ (j : Nat) (m : List Int), t = .int .i64 (j : Int) ∧ (k + 1 ≤ j ∧ j ≤ b) ∧ OwnN wr B (.slice (some ⟨g, 0, none⟩) n cap) m ∧ Per a b l m ∧ Sd m a k ∧ Only g w wr) (fun t _ => b + 1 - (intOf t).toNat)
                  case atStart => exact ⟨k + 1, m2, rfl, by omega, D2.out, P2.out, S2.out, O2.out⟩
                  case round =>
                    obtain ⟨j, m, rfl, hj, hm, hp, hi, ho⟩ := hrel
                    have D := Lib.hid hm
                    have PJ := Lib.hid hp
                    have SJ := Lib.hid hi
                    have OO := Lib.hid ho
                    have ML := Lib.hid hm.len
                    have S0 := Lib.hid (show Below wr.heap.size wr wr.drew from below_drew (Below.refl _ _))
                    have DD := Lib.hid (D.out.below S0.out)
                    have OD := Lib.hid (OO.out.trans (only_drew g wr))
                    clear hm hp hi ho
                    by_cases hj1 : j < b
                    · have hg2 : decide ((j : Int) < (b : Int)) = true := decide_eq_true (by omega)
                      go_wp2_with (refine wpList_val rfl _ (exec_lt _ _ rfl (j : Int) (b : Int) true rfl rfl hg2) ?_)
                      clear hg2
                      by_cases hc : m.getD j 0 < m.getD (j - 1) 0
                      · have HC := Lib.hid (decide_eq_true hc)
                        refine wp_region_noPanic ?_
                        refine wp_region_held_drew (S := fun W => Below wr.heap.size wr W) (by kernel_rfl) S0.out (fun _ => ?_)
                        refine tkm 0 rfl S0.out ?_; try simp only [Act.put, stA, stZ, stS]
                        refine tkm 1 rfl S0.out ?_; try simp only [Act.put, stA, stZ, stS]
                        refine tkv 2 (.pointer (some ⟨g, j, none⟩)) rfl (fun W hW => exec_ixg Tryz.underlying24 (.tmp 106) (.tmp 107) rfl g n cap j (j : Int) rfl rfl (by omega) (by omega)) S0.out ?_; try simp only [Act.put, stA, stZ, stS]
                        refine tkv 3 (.int .u64 (m.getD j 0)) rfl (fun W hW => exec_load_num (.tmp 108) rfl g j (m.getD j 0) rfl (OwnN.cell (D.out.below hW) (by have := D.out.len; omega))) S0.out ?_; try simp only [Act.put, stA, stZ, stS]
                        refine tkm 4 rfl S0.out ?_; try simp only [Act.put, stA, stZ, stS]
                        refine tkm 5 rfl S0.out ?_; try simp only [Act.put, stA, stZ, stS]
                        refine tkv 6 (.int .i64 ((j - 1 : Nat) : Int)) rfl (fun W hW => exec_subn (.tmp 111) (.const (.int .i64 1)) rfl (j : Int) 1 ((j - 1 : Nat) : Int) rfl rfl (by omega) (by omega)) S0.out ?_; try simp only [Act.put, stA, stZ, stS]
                        refine tkv 7 (.pointer (some ⟨g, (j - 1), none⟩)) rfl (fun W hW => exec_ixg Tryz.underlying24 (.tmp 110) (.tmp 112) rfl g n cap (j - 1) ((j - 1 : Nat) : Int) rfl rfl (by omega) (by omega)) S0.out ?_; try simp only [Act.put, stA, stZ, stS]
                        refine tkv 8 (.int .u64 (m.getD (j - 1) 0)) rfl (fun W hW => exec_load_num (.tmp 113) rfl g (j - 1) (m.getD (j - 1) 0) rfl (OwnN.cell (D.out.below hW) (by have := D.out.len; omega))) S0.out ?_; try simp only [Act.put, stA, stZ, stS]
                        refine rdy [9] ?_
                        refine AllReadyH.cons (arR rfl) (fun K hK => ?_) AllReadyH.nil
                        go_simp
                        refine (less16_is _ _ true _ (Lib.hid (HC.out))).mono ?_
                        rintro e wl ⟨rfl, rfl⟩
                        go_wp2_with fail
                        refine hK.out _ _ S0.out (fun _ => ?_)
                        clear hK K
                        try simp only [Act.put, stA, stZ, stS]
                        refine tkm 10 rfl S0.out ?_; try simp only [Act.put, stA, stZ, stS]
                        refine wpAnyH_done (by kernel_rfl) ?_ _
                        refine NoPanic.normal ?_
                        go_wp2_with fail
                        have E1 := Lib.hid (DD.out.below (below_drew (Below.refl _ _)))
                        refine wp_region_noPanic ?_
                        refine wp_region_held_drew (S := fun _ => True) (by kernel_rfl) trivial (fun _ => ?_)
                        refine tkm 0 rfl trivial ?_; try simp only [Act.put, stA, stZ, stS]
                        refine tkm 1 rfl trivial ?_; try simp only [Act.put, stA, stZ, stS]
                        refine tkm 2 rfl trivial ?_; try simp only [Act.put, stA, stZ, stS]
                        refine tkm 3 rfl trivial ?_; try simp only [Act.put, stA, stZ, stS]
                        refine tkv 4 (.int .i64 ((j - 1 : Nat) : Int)) rfl (fun W hW => exec_subn (.tmp 120) (.const (.int .i64 1)) rfl (j : Int) 1 ((j - 1 : Nat) : Int) rfl rfl (by omega) (by omega)) trivial ?_; try simp only [Act.put, stA, stZ, stS]
                        refine tkm 5 rfl trivial ?_; try simp only [Act.put, stA, stZ, stS]
                        refine tkm 6 rfl trivial ?_; try simp only [Act.put, stA, stZ, stS]
                        refine tkv 7 (.int .i64 ((j - 1 : Nat) : Int)) rfl (fun W hW => exec_subn (.tmp 123) (.const (.int .i64 1)) rfl (j : Int) 1 ((j - 1 : Nat) : Int) rfl rfl (by omega) (by omega)) trivial ?_; try simp only [Act.put, stA, stZ, stS]
                        refine tkv 8 (.pointer (some ⟨g, (j - 1), none⟩)) rfl (fun W hW => exec_ixg Tryz.underlying24 (.tmp 122) (.tmp 124) rfl g n cap (j - 1) ((j - 1 : Nat) : Int) rfl rfl (by omega) (by omega)) trivial ?_; try simp only [Act.put, stA, stZ, stS]
                        refine tkm 10 rfl trivial ?_; try simp only [Act.put, stA, stZ, stS]
                        refine tkm 11 rfl trivial ?_; try simp only [Act.put, stA, stZ, stS]
                        refine tkv 12 (.pointer (some ⟨g, j, none⟩)) rfl (fun W hW => exec_ixg Tryz.underlying24 (.tmp 127) (.tmp 128) rfl g n cap j (j : Int) rfl rfl (by omega) (by omega)) trivial ?_; try simp only [Act.put, stA, stZ, stS]
                        refine rdy [9, 13] ?_
                        refine ready_val (arR rfl) rfl (.int .u64 (m.getD (j - 1) 0)) _ (exec_load_num (.tmp 125) rfl g (j - 1) (m.getD (j - 1) 0) rfl (E1.out.cell (by have := E1.out.len; omega))) ⟨trivial, ?_⟩ ?_
                        · try simp only [Act.put, stA, stZ, stS]
                          refine rdy [13] ?_
                          refine ready_val (arR rfl) rfl (.int .u64 (m.getD j 0)) _ (exec_load_num (.tmp 129) rfl g j (m.getD j 0) rfl (E1.out.cell (by have := E1.out.len; omega))) ⟨trivial, ?_⟩ AllReadyH.nil
                          try simp only [Act.put, stA, stZ, stS]
                          refine tkv 14 (.pointer (some ⟨g, j, none⟩)) rfl (fun W hW => exec_ixg Tryz.underlying24 (.tmp 117) (.tmp 118) rfl g n cap j (j : Int) rfl rfl (by omega) (by omega)) trivial ?_; try simp only [Act.put, stA, stZ, stS]
                          refine rdy [15] ?_
                          refine ready_skip (arR rfl) rfl _ (exec_store_num (.tmp 131) (.tmp 126) rfl g j (m.getD (j - 1) 0) (.int .u64 (m.getD j 0)) rfl rfl (E1.out.cell (by have := E1.out.len; omega)) (E1.out.fz j)) ⟨trivial, ?_⟩ AllReadyH.nil
                          have D1 := Lib.hid (E1.out.set j (m.getD (j - 1) 0) (E1.out.ok.at_ (j - 1)))
                          skip
                          try simp only [Act.put]
                          refine tkv 16 (.pointer (some ⟨g, (j - 1), none⟩)) rfl (fun W hW => exec_ixg Tryz.underlying24 (.tmp 119) (.tmp 121) rfl g n cap (j - 1) ((j - 1 : Nat) : Int) rfl rfl (by omega) (by omega)) trivial ?_; try simp only [Act.put, stA, stZ, stS]
                          refine rdy [17] ?_
                          refine ready_skip (arR rfl) rfl _ (exec_store_num (.tmp 132) (.tmp 130) rfl g (j - 1) (m.getD j 0) (.int .u64 ((m.set j (m.getD (j - 1) 0)).getD (j - 1) 0)) rfl rfl (D1.out.cell (by have := D1.out.len; omega)) (D1.out.fz (j - 1))) ⟨trivial, ?_⟩ AllReadyH.nil
                          have D2 := Lib.hid (D1.out.set (j - 1) (m.getD j 0) (E1.out.ok.at_ j))
                          try simp only [Act.put]
                          refine wpAnyH_done (by kernel_rfl) ?_ _
                          refine NoPanic.normal ?_
                          go_wp2_with (refine wpList_val rfl _ (exec_addn _ _ rfl (j : Int) 1 ((j + 1 : Nat) : Int) rfl rfl (by omega) (by omega)) ?_)
                          go_roundw
                          case rel => exact ⟨j + 1, swp m j (j - 1), rfl, by omega, D2.out, .swap PJ.out (by omega) (by omega) (by omega) (by omega) (by have := ML.out; omega), SJ.out.eqv (fun q h1 h2 => by rw [swp_get (by have := ML.out; omega) (by have := ML.out; omega), if_neg (by omega), if_neg (by omega)]), ((OD.out.trans (only_drew g _)).trans (Only.set g j _ _)).trans (Only.set g (j - 1) _ _)⟩
                          case measure => simp [intOf]; omega
                        refine ready_val (arR rfl) rfl (.int .u64 (m.getD j 0)) _ (exec_load_num (.tmp 129) rfl g j (m.getD j 0) rfl (E1.out.cell (by have := E1.out.len; omega))) ⟨trivial, ?_⟩ AllReadyH.nil
                        try simp only [Act.put, stA, stZ, stS]
                        refine rdy [9] ?_
                        refine ready_val (arR rfl) rfl (.int .u64 (m.getD (j - 1) 0)) _ (exec_load_num (.tmp 125) rfl g (j - 1) (m.getD (j - 1) 0) rfl (E1.out.cell (by have := E1.out.len; omega))) ⟨trivial, ?_⟩ AllReadyH.nil
                        try simp only [Act.put, stA, stZ, stS]
                        refine tkv 14 (.pointer (some ⟨g, j, none⟩)) rfl (fun W hW => exec_ixg Tryz.underlying24 (.tmp 117) (.tmp 118) rfl g n cap j (j : Int) rfl rfl (by omega) (by omega)) trivial ?_; try simp only [Act.put, stA, stZ, stS]
                        refine rdy [15] ?_
                        refine ready_skip (arR rfl) rfl _ (exec_store_num (.tmp 131) (.tmp 126) rfl g j (m.getD (j - 1) 0) (.int .u64 (m.getD j 0)) rfl rfl (E1.out.cell (by have := E1.out.len; omega)) (E1.out.fz j)) ⟨trivial, ?_⟩ AllReadyH.nil
                        have D1 := Lib.hid (E1.out.set j (m.getD (j - 1) 0) (E1.out.ok.at_ (j - 1)))
                        skip
                        try simp only [Act.put]
                        refine tkv 16 (.pointer (some ⟨g, (j - 1), none⟩)) rfl (fun W hW => exec_ixg Tryz.underlying24 (.tmp 119) (.tmp 121) rfl g n cap (j - 1) ((j - 1 : Nat) : Int) rfl rfl (by omega) (by omega)) trivial ?_; try simp only [Act.put, stA, stZ, stS]
                        refine rdy [17] ?_
                        refine ready_skip (arR rfl) rfl _ (exec_store_num (.tmp 132) (.tmp 130) rfl g (j - 1) (m.getD j 0) (.int .u64 ((m.set j (m.getD (j - 1) 0)).getD (j - 1) 0)) rfl rfl (D1.out.cell (by have := D1.out.len; omega)) (D1.out.fz (j - 1))) ⟨trivial, ?_⟩ AllReadyH.nil
                        have D2 := Lib.hid (D1.out.set (j - 1) (m.getD j 0) (E1.out.ok.at_ j))
                        try simp only [Act.put]
                        refine wpAnyH_done (by kernel_rfl) ?_ _
                        refine NoPanic.normal ?_
                        go_wp2_with (refine wpList_val rfl _ (exec_addn _ _ rfl (j : Int) 1 ((j + 1 : Nat) : Int) rfl rfl (by omega) (by omega)) ?_)
                        go_roundw
                        case rel => exact ⟨j + 1, swp m j (j - 1), rfl, by omega, D2.out, .swap PJ.out (by omega) (by omega) (by omega) (by omega) (by have := ML.out; omega), SJ.out.eqv (fun q h1 h2 => by rw [swp_get (by have := ML.out; omega) (by have := ML.out; omega), if_neg (by omega), if_neg (by omega)]), ((OD.out.trans (only_drew g _)).trans (Only.set g j _ _)).trans (Only.set g (j - 1) _ _)⟩
                        case measure => simp [intOf]; omega
                      · have HC := Lib.hid (decide_eq_false hc)
                        refine wp_region_noPanic ?_
                        refine wp_region_held_drew (S := fun W => Below wr.heap.size wr W) (by kernel_rfl) S0.out (fun _ => ?_)
                        refine tkm 0 rfl S0.out ?_; try simp only [Act.put, stA, stZ, stS]
                        refine tkm 1 rfl S0.out ?_; try simp only [Act.put, stA, stZ, stS]
                        refine tkv 2 (.pointer (some ⟨g, j, none⟩)) rfl (fun W hW => exec_ixg Tryz.underlying24 (.tmp 106) (.tmp 107) rfl g n cap j (j : Int) rfl rfl (by omega) (by omega)) S0.out ?_; try simp only [Act.put, stA, stZ, stS]
                        refine tkv 3 (.int .u64 (m.getD j 0)) rfl (fun W hW => exec_load_num (.tmp 108) rfl g j (m.getD j 0) rfl (OwnN.cell (D.out.below hW) (by have := D.out.len; omega))) S0.out ?_; try simp only [Act.put, stA, stZ, stS]
                        refine tkm 4 rfl S0.out ?_; try simp only [Act.put, stA, stZ, stS]
                        refine tkm 5 rfl S0.out ?_; try simp only [Act.put, stA, stZ, stS]
                        refine tkv 6 (.int .i64 ((j - 1 : Nat) : Int)) rfl (fun W hW => exec_subn (.tmp 111) (.const (.int .i64 1)) rfl (j : Int) 1 ((j - 1 : Nat) : Int) rfl rfl (by omega) (by omega)) S0.out ?_; try simp only [Act.put, stA, stZ, stS]
                        refine tkv 7 (.pointer (some ⟨g, (j - 1), none⟩)) rfl (fun W hW => exec_ixg Tryz.underlying24 (.tmp 110) (.tmp 112) rfl g n cap (j - 1) ((j - 1 : Nat) : Int) rfl rfl (by omega) (by omega)) S0.out ?_; try simp only [Act.put, stA, stZ, stS]
                        refine tkv 8 (.int .u64 (m.getD (j - 1) 0)) rfl (fun W hW => exec_load_num (.tmp 113) rfl g (j - 1) (m.getD (j - 1) 0) rfl (OwnN.cell (D.out.below hW) (by have := D.out.len; omega))) S0.out ?_; try simp only [Act.put, stA, stZ, stS]
                        refine rdy [9] ?_
                        refine AllReadyH.cons (arR rfl) (fun K hK => ?_) AllReadyH.nil
                        go_simp
                        refine (less16_is _ _ false _ (Lib.hid (HC.out))).mono ?_
                        rintro e wl ⟨rfl, rfl⟩
                        go_wp2_with fail
                        refine hK.out _ _ S0.out (fun _ => ?_)
                        clear hK K
                        try simp only [Act.put, stA, stZ, stS]
                        refine tkm 10 rfl S0.out ?_; try simp only [Act.put, stA, stZ, stS]
                        refine wpAnyH_done (by kernel_rfl) ?_ _
                        refine NoPanic.normal ?_
                        go_wp2_with (refine wpList_val rfl _ (exec_addn _ _ rfl (t : Int) 1 ((t + 1 : Nat) : Int) rfl rfl (by omega) (by omega)) ?_)
                        go_roundw
                        case rel => exact ⟨k, t + 1, m, rfl, rfl, by omega, DD.out, PJ.out, SJ.out, OD.out⟩
                        case measure => simp [intOf]; omega
                    · have hg2 : decide ((j : Int) < (b : Int)) = false := decide_eq_false (by omega)
                      go_wp2_with (first | (refine wpList_val rfl _ (exec_lt _ _ rfl (j : Int) (b : Int) false rfl rfl hg2) ?_) | (refine wpList_val rfl _ (exec_addn _ _ rfl (t : Int) 1 ((t + 1 : Nat) : Int) rfl rfl (by omega) (by omega)) ?_))
                      go_roundw
                      case rel => exact ⟨k, t + 1, m, rfl, rfl, by omega, D.out, PJ.out, SJ.out, OO.out⟩
                      case measure => simp [intOf]; omega
    · have hg0 : decide ((t : Int) < 5) = false := decide_eq_false (by omega)
      go_wp2_with (refine wpList_val rfl _ (exec_lt _ _ rfl (t : Int) 5 false rfl rfl hg0) ?_)
      go_ret
      exact ⟨false, m, rfl, DM.out, PM.out, (fun e => by cases e), OM.out⟩
end Go.Proofs.YtnpbmihbmilkbaaGreat
