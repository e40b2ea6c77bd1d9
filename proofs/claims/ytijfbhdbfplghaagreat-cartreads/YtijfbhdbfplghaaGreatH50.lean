/- The contract of Join of the reference: rows of atoms. alive, and the walks of the laws NoteGets, NotePuts and NoteLast. Written by wip/tools/nlaw_r16.py. What the laws of carts always come to: a cart with three cups. -/
import Derived.Test.YtijfbhdbfplghaaGreatH01
import Derived.Test.YtijfbhdbfplghaaGreatH22
import Derived.Test.YtijfbhdbfplghaaGreatH28
import Derived.Test.YtijfbhdbfplghaaGreatH49
namespace Go.Proofs.YtijfbhdbfplghaaGreat
open Go.RowKit
set_option maxRecDepth 100000 in
set_option maxHeartbeats 4000000 in
theorem refJoin_is (A B : Option Addr) (n m cap cap2 : Nat) (a b : List Am) (w : World) (h : RowV w A n cap a) (h2 : RowV w B m cap2 b) (hn : n ≤ 1000) (hm : m ≤ 1000) : Calls Tryz.prog 23 #[.slice A n cap, .slice B m cap2] w (GivesR w (join a b)) := by
  have HJ := Lib.hid (merge_join h.ok h2.ok)
  have H := Lib.hid h
  have J := Lib.hid h2
  clear h h2
  go_enter Tryz.func23, Tryz.ntmps23
  go_wp2_with fail
  refine (refNorm_is A n cap a _ H.out hn).mono ?_
  rintro e w1 ⟨⟨A1, n1, c1, rfl, r1⟩, b1⟩
  have B1 := Lib.hid b1
  have R1' := Lib.hid r1
  clear b1 r1
  go_wp2_with fail
  refine (refNorm_is B m cap2 b _ (J.out.below B1.out) hm).mono ?_
  rintro e w2 ⟨⟨A2, n2, c2, rfl, r2⟩, b2⟩
  have B2 := Lib.hid (step_ B1.out b2)
  have R1 := Lib.hid (R1'.out.below b2)
  have R2 := Lib.hid r2
  have hn1 : n1 ≤ 1000 := by have := norm_len a; rw [R1.out.len, H.out.len] at this; omega
  have hn2 : n2 ≤ 1000 := by have := norm_len b; rw [R2.out.len, J.out.len] at this; omega
  clear b2 r2 R1'
  obtain ⟨X, hX⟩ : ∃ X, norm a = X := ⟨_, rfl⟩
  obtain ⟨Y, hY⟩ : ∃ Y, norm b = Y := ⟨_, rfl⟩
  rw [hX] at R1 HJ
  rw [hY] at R2 HJ
  clear hX hY H J
  go_wp2_with fail
  go_loopw [5, 6, 7] (fun v p q wr => ∃ (i k : Nat) (out : List Am), i ≤ n1 ∧ k ≤ n2 ∧ p = .int .i64 i ∧ q = .int .i64 k ∧ OwnR wr w2.heap.size v out ∧ JI X Y i k out ∧ Below w2.heap.size w2 wr) (fun _ p q _ => (n1 - (intOf p).toNat) + (n2 - (intOf q).toNat))
  case atStart => exact ⟨0, 0, [], Nat.zero_le _, Nat.zero_le _, rfl, rfl, ownR_nil _ _, rfl, Below.refl _ _⟩
  case round =>
    obtain ⟨i, k, out, hi, hk, rfl, rfl, ho, hj, hb⟩ := hrel
    have OO := Lib.hid ho
    have II := Lib.hid hj
    have BB := Lib.hid hb
    have LL := Lib.hid (show out.length ≤ 5000 by have := hj.len; have := R1.out.len; have := R2.out.len; omega)
    clear ho hj hb
    by_cases hki : k < n2
    · obtain ⟨G2, p2, hF⟩ := R2.out.elem k hki
      have F0 := Lib.hid hF
      have U := Lib.hid (drop_getD (l := Y) (j := k) (by have := R2.out.len; omega))
      obtain ⟨y, hy⟩ : ∃ y, Y.getD k azero = y := ⟨_, rfl⟩
      rw [hy] at F0 U
      clear hF hy
      have F := Lib.hid (F0.out.below BB.out)
      have hkn : ((k : Int) == (n2 : Int)) = false := beq_eq_false_iff_ne.2 (by omega)
      by_cases hii : i < n1
      · obtain ⟨G, p, hE⟩ := R1.out.elem i hii
        have E0 := Lib.hid hE
        have T := Lib.hid (drop_getD (l := X) (j := i) (by have := R1.out.len; omega))
        obtain ⟨x, hx⟩ : ∃ x, X.getD i azero = x := ⟨_, rfl⟩
        rw [hx] at E0 T
        clear hE hx
        have E := Lib.hid (E0.out.below BB.out)
        have hin : ((i : Int) == (n1 : Int)) = false := beq_eq_false_iff_ne.2 (by omega)
        cases hl : x.k.less y.k with
        | true =>
          have HL := Lib.hid hl
          have IN := Lib.hid (II.out.lt T.out U.out hl)
          clear hl
          go_wp2_with fail
          refine region_later (by kernel_rfl) (by kernel_rfl) ?_
          go_big_quiet_step (fail)
          go_big_quiet_step (fail)
          go_big_quiet_step (fail)
          go_big_quiet_step (fail)
          go_big_quiet_step (fail)
          go_big_quiet_step (fail)
          go_big_quiet_step (fail)
          go_big_quiet_step (fail)
          go_big_quiet_step (fail)
          go_big_quiet_step (fail)
          go_big_quiet_step (fail)
          go_big_quiet_step (fail)
          (go_big_quiet_want; refine quiet_index _ _ rfl A1 n1 c1 G p i x _ rfl rfl (by first | rfl | omega) E.out ?_; go_simp; go_big_quiet_on)
          go_big_quiet_step (fail)
          (go_big_quiet_want; refine quiet_load_kyx G p x.k _ rfl rfl (range_ak E.out.rg) E.out.blk E.out.ok.k.ml ?_; go_simp; go_big_quiet_on)
          go_big_quiet_step (fail)
          go_big_quiet_step (fail)
          (go_big_quiet_want; refine quiet_index _ _ rfl A2 n2 c2 G2 p2 k y _ rfl rfl (by first | rfl | omega) F.out ?_; go_simp; go_big_quiet_on)
          go_big_quiet_step (fail)
          (go_big_quiet_want; refine quiet_load_kyx G2 p2 y.k _ rfl rfl (range_ak F.out.rg) F.out.blk F.out.ok.k.ml ?_; go_simp; go_big_quiet_on)
          go_big_quiet_step (exact later_call (refLess_is x.k y.k true _ E.out.ok.k F.out.ok.k HL))
          go_big_quiet_step (fail)
          go_big_quiet_step (fail)
          go_big_quiet_step (fail)
          refine wpQuiet_nil ?_
          intro v3 hw3
          replace E := Lib.hid (E.out.below hw3)
          replace F := Lib.hid (F.out.below hw3)
          replace OO := Lib.hid (OO.out.below hw3)
          replace BB := Lib.hid (BB.out.trans (hw3.mono BB.out.size))
          clear hw3
          have HB := Lib.hid BB.out.size
          go_wp2_with (first
            | go_skip
            | refine wpList_index rfl _ _ rfl A1 n1 c1 G p i x _ rfl rfl (by first | rfl | omega) E.out ?_
            | refine wpList_load_amx rfl _ rfl G p x rfl E.out.rg E.out.ok ?_
            | (refine wpList_one46 rfl _ rfl x rfl E.out.ok ?_; intro g6 w6 e6 N6 B6)
            | (refine wpList_app rfl _ _ rfl w2.heap.size _ out x g6 rfl rfl (OO.out.below B6.out) E.out.ok N6.out LL.out (Nat.le_trans HB.out B6.out.size) ?_; intro D7 m7 c7 w7 e7 O7 B7 G7))
          go_roundw
          case rel => exact ⟨i + 1, k, _, by omega, by omega, by go_num, by go_num, O7.out, IN.out, BB.out.trans ((B6.out.mono HB.out).trans B7.out)⟩
          case measure => simp [intOf]; omega
        | false =>
          have HL := Lib.hid hl
          cases hg : y.k.less x.k with
          | true =>
            have HG := Lib.hid hg
            have IN := Lib.hid (II.out.gt T.out U.out hl hg)
            clear hl hg
            go_wp2_with fail
            refine region_later (by kernel_rfl) (by kernel_rfl) ?_
            go_big_quiet_step (fail)
            go_big_quiet_step (fail)
            go_big_quiet_step (fail)
            go_big_quiet_step (fail)
            go_big_quiet_step (fail)
            go_big_quiet_step (fail)
            go_big_quiet_step (fail)
            go_big_quiet_step (fail)
            go_big_quiet_step (fail)
            go_big_quiet_step (fail)
            go_big_quiet_step (fail)
            go_big_quiet_step (fail)
            (go_big_quiet_want; refine quiet_index _ _ rfl A1 n1 c1 G p i x _ rfl rfl (by first | rfl | omega) E.out ?_; go_simp; go_big_quiet_on)
            go_big_quiet_step (fail)
            (go_big_quiet_want; refine quiet_load_kyx G p x.k _ rfl rfl (range_ak E.out.rg) E.out.blk E.out.ok.k.ml ?_; go_simp; go_big_quiet_on)
            go_big_quiet_step (fail)
            go_big_quiet_step (fail)
            (go_big_quiet_want; refine quiet_index _ _ rfl A2 n2 c2 G2 p2 k y _ rfl rfl (by first | rfl | omega) F.out ?_; go_simp; go_big_quiet_on)
            go_big_quiet_step (fail)
            (go_big_quiet_want; refine quiet_load_kyx G2 p2 y.k _ rfl rfl (range_ak F.out.rg) F.out.blk F.out.ok.k.ml ?_; go_simp; go_big_quiet_on)
            go_big_quiet_step (exact later_call (refLess_is x.k y.k false _ E.out.ok.k F.out.ok.k HL))
            go_big_quiet_step (fail)
            go_big_quiet_step (fail)
            go_big_quiet_step (fail)
            refine wpQuiet_nil ?_
            intro v3 hw3
            replace E := Lib.hid (E.out.below hw3)
            replace F := Lib.hid (F.out.below hw3)
            replace OO := Lib.hid (OO.out.below hw3)
            replace BB := Lib.hid (BB.out.trans (hw3.mono BB.out.size))
            clear hw3
            go_wp2_with fail
            refine region_later (by kernel_rfl) (by kernel_rfl) ?_
            go_big_quiet_step (fail)
            go_big_quiet_step (fail)
            go_big_quiet_step (fail)
            go_big_quiet_step (fail)
            go_big_quiet_step (fail)
            go_big_quiet_step (fail)
            go_big_quiet_step (fail)
            (go_big_quiet_want; refine quiet_index _ _ rfl A2 n2 c2 G2 p2 k y _ rfl rfl (by first | rfl | omega) F.out ?_; go_simp; go_big_quiet_on)
            go_big_quiet_step (fail)
            (go_big_quiet_want; refine quiet_load_kyx G2 p2 y.k _ rfl rfl (range_ak F.out.rg) F.out.blk F.out.ok.k.ml ?_; go_simp; go_big_quiet_on)
            go_big_quiet_step (fail)
            go_big_quiet_step (fail)
            (go_big_quiet_want; refine quiet_index _ _ rfl A1 n1 c1 G p i x _ rfl rfl (by first | rfl | omega) E.out ?_; go_simp; go_big_quiet_on)
            go_big_quiet_step (fail)
            (go_big_quiet_want; refine quiet_load_kyx G p x.k _ rfl rfl (range_ak E.out.rg) E.out.blk E.out.ok.k.ml ?_; go_simp; go_big_quiet_on)
            go_big_quiet_step (exact later_call (refLess_is y.k x.k true _ F.out.ok.k E.out.ok.k HG))
            go_big_quiet_step (fail)
            go_big_quiet_step (fail)
            refine wpQuiet_nil ?_
            intro v4 hw4
            replace E := Lib.hid (E.out.below hw4)
            replace F := Lib.hid (F.out.below hw4)
            replace OO := Lib.hid (OO.out.below hw4)
            replace BB := Lib.hid (BB.out.trans (hw4.mono BB.out.size))
            clear hw4
            have HB := Lib.hid BB.out.size
            go_wp2_with (first
              | go_skip
              | refine wpList_index rfl _ _ rfl A2 n2 c2 G2 p2 k y _ rfl rfl (by first | rfl | omega) F.out ?_
              | refine wpList_load_amx rfl _ rfl G2 p2 y rfl F.out.rg F.out.ok ?_
              | (refine wpList_one46 rfl _ rfl y rfl F.out.ok ?_; intro g6 w6 e6 N6 B6)
              | (refine wpList_app rfl _ _ rfl w2.heap.size _ out y g6 rfl rfl (OO.out.below B6.out) F.out.ok N6.out LL.out (Nat.le_trans HB.out B6.out.size) ?_; intro D7 m7 c7 w7 e7 O7 B7 G7))
            go_roundw
            case rel => exact ⟨i, k + 1, _, by omega, by omega, by go_num, by go_num, O7.out, IN.out, BB.out.trans ((B6.out.mono HB.out).trans B7.out)⟩
            case measure => simp [intOf]; omega
          | false =>
            have HG := Lib.hid hg
            have IN := Lib.hid (II.out.eq T.out U.out hl hg)
            clear hl hg
            go_wp2_with fail
            refine region_later (by kernel_rfl) (by kernel_rfl) ?_
            go_big_quiet_step (fail)
            go_big_quiet_step (fail)
            go_big_quiet_step (fail)
            go_big_quiet_step (fail)
            go_big_quiet_step (fail)
            go_big_quiet_step (fail)
            go_big_quiet_step (fail)
            go_big_quiet_step (fail)
            go_big_quiet_step (fail)
            go_big_quiet_step (fail)
            go_big_quiet_step (fail)
            go_big_quiet_step (fail)
            (go_big_quiet_want; refine quiet_index _ _ rfl A1 n1 c1 G p i x _ rfl rfl (by first | rfl | omega) E.out ?_; go_simp; go_big_quiet_on)
            go_big_quiet_step (fail)
            (go_big_quiet_want; refine quiet_load_kyx G p x.k _ rfl rfl (range_ak E.out.rg) E.out.blk E.out.ok.k.ml ?_; go_simp; go_big_quiet_on)
            go_big_quiet_step (fail)
            go_big_quiet_step (fail)
            (go_big_quiet_want; refine quiet_index _ _ rfl A2 n2 c2 G2 p2 k y _ rfl rfl (by first | rfl | omega) F.out ?_; go_simp; go_big_quiet_on)
            go_big_quiet_step (fail)
            (go_big_quiet_want; refine quiet_load_kyx G2 p2 y.k _ rfl rfl (range_ak F.out.rg) F.out.blk F.out.ok.k.ml ?_; go_simp; go_big_quiet_on)
            go_big_quiet_step (exact later_call (refLess_is x.k y.k false _ E.out.ok.k F.out.ok.k HL))
            go_big_quiet_step (fail)
            go_big_quiet_step (fail)
            go_big_quiet_step (fail)
            refine wpQuiet_nil ?_
            intro v3 hw3
            replace E := Lib.hid (E.out.below hw3)
            replace F := Lib.hid (F.out.below hw3)
            replace OO := Lib.hid (OO.out.below hw3)
            replace BB := Lib.hid (BB.out.trans (hw3.mono BB.out.size))
            clear hw3
            go_wp2_with fail
            refine region_later (by kernel_rfl) (by kernel_rfl) ?_
            go_big_quiet_step (fail)
            go_big_quiet_step (fail)
            go_big_quiet_step (fail)
            go_big_quiet_step (fail)
            go_big_quiet_step (fail)
            go_big_quiet_step (fail)
            go_big_quiet_step (fail)
            (go_big_quiet_want; refine quiet_index _ _ rfl A2 n2 c2 G2 p2 k y _ rfl rfl (by first | rfl | omega) F.out ?_; go_simp; go_big_quiet_on)
            go_big_quiet_step (fail)
            (go_big_quiet_want; refine quiet_load_kyx G2 p2 y.k _ rfl rfl (range_ak F.out.rg) F.out.blk F.out.ok.k.ml ?_; go_simp; go_big_quiet_on)
            go_big_quiet_step (fail)
            go_big_quiet_step (fail)
            (go_big_quiet_want; refine quiet_index _ _ rfl A1 n1 c1 G p i x _ rfl rfl (by first | rfl | omega) E.out ?_; go_simp; go_big_quiet_on)
            go_big_quiet_step (fail)
            (go_big_quiet_want; refine quiet_load_kyx G p x.k _ rfl rfl (range_ak E.out.rg) E.out.blk E.out.ok.k.ml ?_; go_simp; go_big_quiet_on)
            go_big_quiet_step (exact later_call (refLess_is y.k x.k false _ F.out.ok.k E.out.ok.k HG))
            go_big_quiet_step (fail)
            go_big_quiet_step (fail)
            refine wpQuiet_nil ?_
            intro v4 hw4
            replace E := Lib.hid (E.out.below hw4)
            replace F := Lib.hid (F.out.below hw4)
            replace OO := Lib.hid (OO.out.below hw4)
            replace BB := Lib.hid (BB.out.trans (hw4.mono BB.out.size))
            clear hw4
            go_wp2_with fail
            have HB := Lib.hid BB.out.size
            have S1 := Lib.hid (show Below w2.heap.size v4 v4.drew from below_drew (Below.refl _ _))
            refine wp_region_noPanic ?_
            refine wp_region_held_drew (S := fun W => Below w2.heap.size v4 W) (by kernel_rfl) S1.out (fun _ => ?_)
            refine tkm 0 rfl S1.out ?_; try simp only [Act.put, stA, stZ, stS]
            refine tkm 1 rfl S1.out ?_; try simp only [Act.put, stA, stZ, stS]
            refine tkm 2 rfl S1.out ?_; try simp only [Act.put, stA, stZ, stS]
            refine tkv 3 (.pointer (some ⟨G, p, none⟩)) rfl (fun W hW => exec_index _ _ rfl A1 n1 c1 G p i x _ rfl rfl (by first | rfl | omega) E.out) S1.out ?_; try simp only [Act.put, stA, stZ, stS]
            refine tkm 4 rfl S1.out ?_; try simp only [Act.put, stA, stZ, stS]
            refine tky 5 (.agg x.k.cells.toArray) rfl (yieldsIf_load_mid (by rfl) 53 (.tmp 26) rfl G p rfl x.k.cells _ (fun W hW => range_ak (E0.out.below (BB.out.trans hW)).rg) Tryz.underlying53 rfl (size27 E.out.ok.k.ml)) S1.out ?_; try simp only [Act.put, stA, stZ, stS]
            refine tkm 6 rfl S1.out ?_; try simp only [Act.put, stA, stZ, stS]
            refine tkm 7 rfl S1.out ?_; try simp only [Act.put, stA, stZ, stS]
            refine tkv 8 (.pointer (some ⟨G, p, none⟩)) rfl (fun W hW => exec_index _ _ rfl A1 n1 c1 G p i x _ rfl rfl (by first | rfl | omega) E.out) S1.out ?_; try simp only [Act.put, stA, stZ, stS]
            refine tkm 9 rfl S1.out ?_; try simp only [Act.put, stA, stZ, stS]
            refine tky 10 (.agg x.v.cells.toArray) rfl (yieldsIf_load_mid (by rfl) 56 (.tmp 31) rfl G (p + 12) rfl x.v.cells _ (fun W hW => range_av (E0.out.below (BB.out.trans hW)).rg E.out.ok) Tryz.underlying56 rfl (size30 E.out.ok.v.tl)) S1.out ?_; try simp only [Act.put, stA, stZ, stS]
            refine tkm 11 rfl S1.out ?_; try simp only [Act.put, stA, stZ, stS]
            refine tkm 12 rfl S1.out ?_; try simp only [Act.put, stA, stZ, stS]
            refine tkv 13 (.pointer (some ⟨G2, p2, none⟩)) rfl (fun W hW => exec_index _ _ rfl A2 n2 c2 G2 p2 k y _ rfl rfl (by first | rfl | omega) F.out) S1.out ?_; try simp only [Act.put, stA, stZ, stS]
            refine tkm 14 rfl S1.out ?_; try simp only [Act.put, stA, stZ, stS]
            refine tky 15 (.agg y.v.cells.toArray) rfl (yieldsIf_load_mid (by rfl) 56 (.tmp 36) rfl G2 (p2 + 12) rfl y.v.cells _ (fun W hW => range_av (F0.out.below (BB.out.trans hW)).rg F.out.ok) Tryz.underlying56 rfl (size30 F.out.ok.v.tl)) S1.out ?_; try simp only [Act.put, stA, stZ, stS]
            refine rdy [16] ?_
            refine AllReadyH.cons (arR rfl) (fun K hK => ?_) AllReadyH.nil
            go_simp
            refine (refMore_is x.v y.v _ E.out.ok.v F.out.ok.v).mono ?_
            rintro e w3 ⟨rfl, b3⟩
            have S3 := Lib.hid (S1.out.trans (b3.mono HB.out))
            have O3 := Lib.hid (OO.out.drew.below b3)
            have H3 := Lib.hid (Nat.le_trans HB.out b3.size)
            clear b3
            go_wp2_with fail
            refine hK.out _ _ ?_ (fun _ => ?_)
            · exact S3.out
            clear hK K
            try simp only [Act.put, stA, stZ, stS]
            refine tkv 17 (.agg (⟨x.k, more x.v y.v⟩ : Am).cells.toArray) rfl (fun W hW => exec_build 58 _ rfl [(0, .agg x.k.cells.toArray), (1, .agg (more x.v y.v).cells.toArray)] rfl _ (built46 x.k (more x.v y.v) E.out.ok.k.ml (more_ok E.out.ok.v F.out.ok.v).tl)) S3.out ?_; try simp only [Act.put, stA, stZ, stS]
            refine rdy [18] ?_
            refine ready_one46 (arR rfl) rfl _ rfl ⟨x.k, more x.v y.v⟩ rfl ⟨E.out.ok.k, more_ok E.out.ok.v F.out.ok.v⟩ (fun g4 w4 e4 N4 b4 => ?_) AllReadyH.nil
            refine ⟨S3.out.trans (b4.mono H3.out), ?_⟩
            try simp only [Act.put, stA, stZ, stS]
            refine rdy [19] ?_
            refine ready_app46 (arR rfl) rfl _ _ rfl w2.heap.size _ out ⟨x.k, more x.v y.v⟩ g4 rfl rfl (O3.out.below b4) ⟨E.out.ok.k, more_ok E.out.ok.v F.out.ok.v⟩ N4 LL.out (Nat.le_trans H3.out b4.size) (fun D5 m5 c5 w5 e5 O5 b5 G5 => ?_) AllReadyH.nil
            refine ⟨(S3.out.trans (b4.mono H3.out)).trans b5, ?_⟩
            try simp only [Act.put, stA, stZ, stS]
            have S5 := Lib.hid ((S3.out.trans (b4.mono H3.out)).trans b5)
            have O5' := Lib.hid O5
            clear S3 O3 H3 N4 b4 O5 b5 G5
            refine tkm 20 rfl S5.out ?_; try simp only [Act.put, stA, stZ, stS]
            refine wpAnyH_done (by kernel_rfl) ?_ _
            refine NoPanic.normal ?_
            go_wp2_with fail
            go_roundw
            case rel => exact ⟨i + 1, k + 1, _, by omega, by omega, by go_num, by go_num, O5'.out, IN.out, BB.out.trans S5.out⟩
            case measure => simp [intOf]; omega
      · obtain rfl : i = n1 := by omega
        have IN := Lib.hid (II.out.b (List.drop_of_length_le (by have := R1.out.len; omega)) U.out)
        go_wp2_with fail
        refine region_later (by kernel_rfl) (by kernel_rfl) ?_
        go_big_quiet_step (fail)
        go_big_quiet_step (fail)
        go_big_quiet_step (fail)
        go_big_quiet_step (fail)
        go_big_quiet_step (fail)
        go_big_quiet_step (fail)
        go_big_quiet_step (fail)
        go_big_quiet_step (fail)
        go_big_quiet_step (fail)
        go_big_quiet_step (fail)
        go_big_quiet_step (fail)
        go_big_quiet_step (fail)
        go_big_quiet_step (fail)
        go_big_quiet_step (fail)
        go_big_quiet_step (fail)
        go_big_quiet_step (fail)
        go_big_quiet_step (fail)
        go_big_quiet_step (fail)
        go_big_quiet_step (fail)
        go_big_quiet_step (fail)
        go_big_quiet_step (fail)
        go_big_quiet_step (fail)
        go_big_quiet_step (fail)
        go_big_quiet_step (fail)
        refine wpQuiet_nil ?_
        intro v3 hw3
        replace F := Lib.hid (F.out.below hw3)
        replace OO := Lib.hid (OO.out.below hw3)
        replace BB := Lib.hid (BB.out.trans (hw3.mono BB.out.size))
        clear hw3
        go_wp2_with fail
        refine region_later (by kernel_rfl) (by kernel_rfl) ?_
        go_big_quiet_step (fail)
        go_big_quiet_step (fail)
        go_big_quiet_step (fail)
        go_big_quiet_step (fail)
        go_big_quiet_step (fail)
        go_big_quiet_step (fail)
        go_big_quiet_step (fail)
        go_big_quiet_step (fail)
        go_big_quiet_step (fail)
        go_big_quiet_step (fail)
        go_big_quiet_step (fail)
        go_big_quiet_step (fail)
        go_big_quiet_step (fail)
        go_big_quiet_step (fail)
        go_big_quiet_step (fail)
        go_big_quiet_step (fail)
        go_big_quiet_step (fail)
        go_big_quiet_step (fail)
        refine wpQuiet_nil ?_
        intro v4 hw4
        replace F := Lib.hid (F.out.below hw4)
        replace OO := Lib.hid (OO.out.below hw4)
        replace BB := Lib.hid (BB.out.trans (hw4.mono BB.out.size))
        clear hw4
        have HB := Lib.hid BB.out.size
        go_wp2_with (first
          | go_skip
          | refine wpList_index rfl _ _ rfl A2 n2 c2 G2 p2 k y _ rfl rfl (by first | rfl | omega) F.out ?_
          | refine wpList_load_amx rfl _ rfl G2 p2 y rfl F.out.rg F.out.ok ?_
          | (refine wpList_one46 rfl _ rfl y rfl F.out.ok ?_; intro g6 w6 e6 N6 B6)
          | (refine wpList_app rfl _ _ rfl w2.heap.size _ out y g6 rfl rfl (OO.out.below B6.out) F.out.ok N6.out LL.out (Nat.le_trans HB.out B6.out.size) ?_; intro D7 m7 c7 w7 e7 O7 B7 G7))
        go_roundw
        case rel => exact ⟨i, k + 1, _, by omega, by omega, by go_num, by go_num, O7.out, IN.out, BB.out.trans ((B6.out.mono HB.out).trans B7.out)⟩
        case measure => simp [intOf]; omega
    · obtain rfl : k = n2 := by omega
      by_cases hii : i < n1
      · obtain ⟨G, p, hE⟩ := R1.out.elem i hii
        have E0 := Lib.hid hE
        have T := Lib.hid (drop_getD (l := X) (j := i) (by have := R1.out.len; omega))
        obtain ⟨x, hx⟩ : ∃ x, X.getD i azero = x := ⟨_, rfl⟩
        rw [hx] at E0 T
        clear hE hx
        have E := Lib.hid (E0.out.below BB.out)
        have IN := Lib.hid (II.out.a T.out (List.drop_of_length_le (by have := R2.out.len; omega)))
        go_wp2_with fail
        refine region_later (by kernel_rfl) (by kernel_rfl) ?_
        go_big_quiet_step (fail)
        go_big_quiet_step (fail)
        go_big_quiet_step (fail)
        go_big_quiet_step (fail)
        go_big_quiet_step (fail)
        go_big_quiet_step (fail)
        go_big_quiet_step (fail)
        go_big_quiet_step (fail)
        go_big_quiet_step (fail)
        go_big_quiet_step (fail)
        go_big_quiet_step (fail)
        go_big_quiet_step (fail)
        go_big_quiet_step (fail)
        go_big_quiet_step (fail)
        go_big_quiet_step (fail)
        go_big_quiet_step (fail)
        go_big_quiet_step (fail)
        go_big_quiet_step (fail)
        go_big_quiet_step (fail)
        go_big_quiet_step (fail)
        go_big_quiet_step (fail)
        go_big_quiet_step (fail)
        go_big_quiet_step (fail)
        go_big_quiet_step (fail)
        refine wpQuiet_nil ?_
        intro v3 hw3
        replace E := Lib.hid (E.out.below hw3)
        replace OO := Lib.hid (OO.out.below hw3)
        replace BB := Lib.hid (BB.out.trans (hw3.mono BB.out.size))
        clear hw3
        have HB := Lib.hid BB.out.size
        go_wp2_with (first
          | go_skip
          | refine wpList_index rfl _ _ rfl A1 n1 c1 G p i x _ rfl rfl (by first | rfl | omega) E.out ?_
          | refine wpList_load_amx rfl _ rfl G p x rfl E.out.rg E.out.ok ?_
          | (refine wpList_one46 rfl _ rfl x rfl E.out.ok ?_; intro g6 w6 e6 N6 B6)
          | (refine wpList_app rfl _ _ rfl w2.heap.size _ out x g6 rfl rfl (OO.out.below B6.out) E.out.ok N6.out LL.out (Nat.le_trans HB.out B6.out.size) ?_; intro D7 m7 c7 w7 e7 O7 B7 G7))
        go_roundw
        case rel => exact ⟨i + 1, k, _, by omega, by omega, by go_num, by go_num, O7.out, IN.out, BB.out.trans ((B6.out.mono HB.out).trans B7.out)⟩
        case measure => simp [intOf]; omega
      · obtain rfl : i = n1 := by omega
        have II := Lib.hid (show JI X Y X.length Y.length out by rw [R1.out.len, R2.out.len]; exact II.out)
        have HO := Lib.hid II.out.done
        go_wp2_with fail
        go_ret
        exact GivesR.own (by rw [← HJ.out, ← HO.out]; exact OO.out) (step_ B2.out BB.out)
end Go.Proofs.YtijfbhdbfplghaaGreat
namespace Go.Proofs.YtijfbhdbfplghaaGreat
open Go.RowKit
theorem wpList_store_nmz {ops : Array Oper} {rest : List Oper} {op : Oper} {a : Act} {w : World} {Q : Exit → Act → World → Prop} (hgd : op.guard = none) (x y : Operand) (ho : op.op = .store 25 x y) (g : Nat) (t : List Int) (hx : a.eval x = .pointer (some ⟨g, 0, none⟩)) (hy : a.eval y = .agg (nm t)) (hb : Blk w g 25 (nmL M.zero8)) (ht : t.length = 8)
    (h : ∀ w', Hid (Blk w' g 25 (nmL t)) → Hid (Only g w w') → wpList Tryz.prog ops Q rest (a.put op.dst undef) w') : wpList Tryz.prog ops Q (op :: rest) a w :=
  wpList_store_cs hgd 25 x y ho g (nmL M.zero8) (nmL t) hx hy hb (by unfold nmL; rw [List.length_map, List.length_map, ht]; rfl) (size_nmL ht) (nm_one t) h
/-! alive: hi. -/
def hi8 : List Int := [104, 105, 0, 0, 0, 0, 0, 0]
end Go.Proofs.YtijfbhdbfplghaaGreat
namespace Go.Proofs.YtijfbhdbfplghaaGreat
open Go.RowKit Go.Shelf
attribute [local go_sem] Oper.semAt_some
def cup8 : List Int := [99, 117, 112, 0, 0, 0, 0, 0]
def tagA : Am := ⟨⟨1, 1, cup8, 0, 1⟩, ⟨1, M.zero8⟩⟩
def plusA : Am := ⟨⟨2, 1, cup8, 0, 0⟩, ⟨3, M.zero8⟩⟩
def cupS : List Am := [tagA, plusA]
theorem cup_nok : NOk cup8 := ⟨rfl, fun x hx => by simp [cup8] at hx; omega⟩
theorem tagA_ok : tagA.Ok := ⟨⟨rfl, cup_nok.2, by decide, by decide, by decide, by decide, by decide, by decide, by decide, by decide⟩, ⟨rfl, zero8_bytes, by decide, by decide⟩⟩
theorem plusA_ok : plusA.Ok := ⟨⟨rfl, cup_nok.2, by decide, by decide, by decide, by decide, by decide, by decide, by decide, by decide⟩, ⟨rfl, zero8_bytes, by decide, by decide⟩⟩
theorem cup_ok : OkR cupS := (okR_nil.cons plusA_ok).cons tagA_ok
theorem cup_st : St cupS := ⟨cup_ok, fun a ha => by
  rcases List.mem_cons.1 ha with rfl | ha
  · decide
  · rw [List.mem_singleton.1 ha]; decide, List.pairwise_cons.2 ⟨fun b hb => by rw [List.mem_singleton.1 hb]; decide, List.pairwise_singleton _ _⟩⟩
theorem norm_cup : norm cupS = cupS := norm_id cup_st
theorem cup_qua : quaN cupS 1 cup8 = 3 := by unfold quaN presT tot; rw [norm_cup]; decide
theorem cup_pres : presT cupS 1 cup8 = true := by unfold presT; rw [norm_cup]; decide
theorem cup_items : itemsT cupS 1 = [cup8] := by unfold itemsT; rw [norm_cup]; rfl
theorem cup_lines : (linesQ cupS 1).length = 1 := by unfold linesQ; rw [cup_items]; rfl
theorem cup_carts : cartsQ cupS = [1] := (set_carts cup_ok (List.pairwise_singleton _ _) fun c => by
  rw [norm_cup, List.mem_singleton]
  constructor
  · rintro rfl; exact ⟨tagA, List.mem_cons_self .., by decide, rfl⟩
  · rintro ⟨x, hx, -, rfl⟩
    rcases List.mem_cons.1 hx with rfl | hx
    · rfl
    · rw [List.mem_singleton.1 hx]; rfl).symm
theorem nil_carts : cartsQ [] = [] := (set_carts okR_nil List.Pairwise.nil fun c => by
  constructor
  · intro h; cases h
  · rintro ⟨x, hx, -⟩; cases hx).symm
theorem built_cup : Tryz.prog.built 25 [(0, .int .u8 99), (1, .int .u8 117), (2, .int .u8 112)] = some (nm cup8) := by kernel_rfl
theorem built_tk : Tryz.prog.built 53 [(0, .int .u8 1), (1, .int .u16 1), (2, .agg (nm cup8)), (4, .int .u32 1)] = some tagA.k.cells.toArray := by kernel_rfl
theorem built_pk : Tryz.prog.built 53 [(0, .int .u8 2), (1, .int .u16 1), (2, .agg (nm cup8))] = some plusA.k.cells.toArray := by kernel_rfl
theorem built_tv : Tryz.prog.built 56 [(0, .int .u64 1)] = some tagA.v.cells.toArray := by kernel_rfl
theorem built_pv : Tryz.prog.built 56 [(0, .int .u64 3)] = some plusA.v.cells.toArray := by kernel_rfl
theorem built_ta : Tryz.prog.built 58 [(0, .agg tagA.k.cells.toArray), (1, .agg tagA.v.cells.toArray)] = some tagA.cells.toArray := by kernel_rfl
theorem built_pa : Tryz.prog.built 58 [(0, .agg plusA.k.cells.toArray), (1, .agg plusA.v.cells.toArray)] = some plusA.cells.toArray := by kernel_rfl
theorem fill_two : Instr.fill (fun i => some (i * 21, 21)) ((Array.range (2 * 21)).map (azero.cells.toArray[· % azero.cells.toArray.size]!)) [(0, .agg tagA.cells.toArray), (1, .agg plusA.cells.toArray)] = some (acs cupS).toArray := by kernel_rfl
theorem run_two (w : World) : (Instr.buildSlice 22 2 #[(0, .agg tagA.cells.toArray), (1, .agg plusA.cells.toArray)]).run Tryz.prog w = .ok (.slice (some ⟨w.heap.size, 0, none⟩) 2 2) (w.alloc (.cells (acs cupS).toArray 58)) := by
  have hf := fill_two
  simp only [Instr.buildSlice, Sem.run_bind, run_underlying Tryz.underlying22, Result.andThen_ok, sizeOf49]
  rw [if_neg (by decide), if_neg (by decide)]
  simp only [Sem.run_bind, Sem.run_pure, Result.andThen_ok, zero32, Value.cells]
  rw [hf]
  rfl
theorem row_cup {w : World} {g : Nat} (h : Blk w g 58 (acs cupS)) : RowV w (some ⟨g, 0, none⟩) 2 2 cupS :=
  ⟨cup_ok, rfl, Nat.le_refl _, by unfold maxLen; decide, fun _ => ⟨g, 0, rfl, h.lt, fun i hi j v hv => by
    have := h.range (i * 21 + j) v (acs_get cup_ok i hi j v hv)
    simpa [Nat.add_assoc] using this⟩⟩
theorem wpList_two {ops : Array Oper} {rest : List Oper} {op : Oper} {a : Act} {w : World} {Q : Exit → Act → World → Prop} (hgd : op.guard = none) (x y : Operand) (ho : op.op = .buildSlice 22 2 #[(0, x), (1, y)]) (hx : a.eval x = .agg tagA.cells.toArray) (hy : a.eval y = .agg plusA.cells.toArray)
    (h : ∀ g w', Hid (RowV w' (some ⟨g, 0, none⟩) 2 2 cupS) → Hid (Below w.heap.size w w') → wpList Tryz.prog ops Q rest (a.put op.dst (.slice (some ⟨g, 0, none⟩) 2 2)) w') : wpList Tryz.prog ops Q (op :: rest) a w := by
  refine wpList_plain hgd fun K hK => ?_
  unfold Oper.wp execOp
  simp only [ho, List.map_toArray, List.map_cons, List.map_nil, hx, hy, Sem.run_bind, run_two, Result.andThen_ok, Sem.run_pure]
  exact hK _ _ (h _ _ (Lib.hid (row_cup (blk_alloc w 58 (acs cupS)))) (Lib.hid (new_below w _)))
theorem linesN_is (A : Option Addr) (n cap : Nat) (a : List Am) (c : Int) (w : World) (h : RowV w A n cap a) (hl : n ≤ 600) : Calls Tryz.prog 10 #[.slice A n cap, .int .u16 c] w fun e w' => (∃ D cp, e = .returned (.slice D (linesQ a c).length cp)) ∧ Below w.heap.size w w' := by
  refine (lines_is A n cap a c w h hl).mono ?_
  rintro e w1 ⟨⟨v, rfl, o⟩, b⟩
  obtain ⟨D, cp, rfl⟩ := o.shape
  exact ⟨⟨D, cp, rfl⟩, b⟩
theorem cartsN_is (A : Option Addr) (n cap : Nat) (a : List Am) (w : World) (h : RowV w A n cap a) (hl : n ≤ 600) : Calls Tryz.prog 16 #[.slice A n cap] w fun e w' => (∃ D cp, e = .returned (.slice D (cartsQ a).length cp)) ∧ Below w.heap.size w w' := by
  refine (carts17_is A n cap a w h hl).mono ?_
  rintro e w1 ⟨⟨v, rfl, o⟩, b⟩
  obtain ⟨D, cp, rfl⟩ := o.shape
  exact ⟨⟨D, cp, rfl⟩, b⟩
set_option maxRecDepth 100000 in
set_option maxHeartbeats 8000000 in
theorem alive_is (w : World) : Calls Tryz.prog 6 #[] w fun e w' => e = .returned (.bool true) ∧ Below w.heap.size w w' := by
  have Z0 := Lib.hid (blk_alloc w 25 (nmL M.zero8))
  have hz := zero23
  go_enter Tryz.func6, Tryz.ntmps6
  go_wp2_with (first
    | refine wpList_build rfl 25 _ rfl [(0, .int .u8 99), (1, .int .u8 117), (2, .int .u8 112)] rfl _ built_cup ?_
    | (refine wpList_store_nmz rfl _ _ rfl w.heap.size cup8 rfl rfl Z0.out rfl ?_; intro w1 N1 O1; have B1 := Lib.hid (box_below O1.out))
    | refine wpList_load_nm rfl _ rfl w.heap.size 0 cup8 rfl N1.out.range rfl ?_
    | refine wpList_build rfl 53 _ rfl [(0, .int .u8 1), (1, .int .u16 1), (2, .agg (nm cup8)), (4, .int .u32 1)] rfl _ built_tk ?_
    | refine wpList_build rfl 56 _ rfl [(0, .int .u64 1)] rfl _ built_tv ?_
    | refine wpList_build rfl 58 _ rfl [(0, .agg tagA.k.cells.toArray), (1, .agg tagA.v.cells.toArray)] rfl _ built_ta ?_
    | refine wpList_build rfl 53 _ rfl [(0, .int .u8 2), (1, .int .u16 1), (2, .agg (nm cup8))] rfl _ built_pk ?_
    | refine wpList_build rfl 56 _ rfl [(0, .int .u64 3)] rfl _ built_pv ?_
    | refine wpList_build rfl 58 _ rfl [(0, .agg plusA.k.cells.toArray), (1, .agg plusA.v.cells.toArray)] rfl _ built_pa ?_
    | (refine wpList_two rfl _ _ rfl rfl rfl ?_; intro g2 w2 R2 Q2; have N2 := Lib.hid (N1.out.below Q2.out); have B2 := Lib.hid (step_ B1.out Q2.out))
    | refine wpList_load_nm rfl _ rfl w.heap.size 0 cup8 rfl N2.out.range rfl ?_)
  refine (qua_is (some ⟨g2, 0, none⟩) 2 2 cupS 1 cup8 3 true _ R2.out (by omega) cup_nok (Lib.hid cup_qua) (Lib.hid cup_pres)).mono ?_
  rintro e w3 ⟨rfl, b3⟩
  have R3 := Lib.hid (R2.out.below b3)
  have B3 := Lib.hid (step_ B2.out b3)
  clear b3
  go_wp2_with fail
  refine (linesN_is (some ⟨g2, 0, none⟩) 2 2 cupS 1 _ R3.out (by omega)).mono ?_
  rintro e w4 ⟨⟨D4, c4, rfl⟩, b4⟩
  rw [cup_lines]
  have R4 := Lib.hid (R3.out.below b4)
  have B4 := Lib.hid (step_ B3.out b4)
  clear b4
  go_wp2_with fail
  refine (cartsN_is (some ⟨g2, 0, none⟩) 2 2 cupS _ R4.out (by omega)).mono ?_
  rintro e w5 ⟨⟨D5, c5, rfl⟩, b5⟩
  rw [cup_carts]
  have B5 := Lib.hid (step_ B4.out b5)
  clear b5
  go_wp2_with fail
  refine (cartsN_is none 0 0 [] _ (rowV_nil _) (by omega)).mono ?_
  rintro e w6 ⟨⟨D6, c6, rfl⟩, b6⟩
  rw [nil_carts]
  have B6 := Lib.hid (step_ B5.out b6)
  clear b6
  go_wp2_with fail
  go_ret
  exact ⟨rfl, B6.out⟩
end Go.Proofs.YtijfbhdbfplghaaGreat
