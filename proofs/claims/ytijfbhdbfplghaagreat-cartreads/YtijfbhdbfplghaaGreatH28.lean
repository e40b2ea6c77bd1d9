/- The contracts of find and of Rows of the reference. The contracts of Find and All of the reference; rows of rows. The contracts of find and of Rows of the reference. The contracts of Keys and Names of the reference. Written by wip/tools/same_r14.py. Get, Carts and Same of the reference. Written by wip/tools/nref_r16.py. fault, Put and Newer of package note. Written by wip/tools/nput_r16.py. Put of the reference. Written by wip/tools/nrput_r16.py. The atoms of a cart in a row: package cart's filter; the keys of its groups. No program in it: rows of numbers that are sorted in place: exchanges, rows that are exchanges of each other in a range, insertion, heaps, partitions. -/
import Derived.Test.YtijfbhdbfplghaaGreatH01
import Derived.Test.YtijfbhdbfplghaaGreatH22
import Derived.Test.YtijfbhdbfplghaaGreatH25
import Derived.Test.YtijfbhdbfplghaaGreatH19
import Derived.Test.YtijfbhdbfplghaaGreatH27
import Derived.Test.YtijfbhdbfplghaaGreatH26
import Derived.Test.YtijfbhdbfplghaaGreatH08
import Derived.Test.YtijfbhdbfplghaaGreatH06
import Derived.Test.YtijfbhdbfplghaaGreatH04
import Derived.Test.YtijfbhdbfplghaaGreatH13
import Derived.Test.YtijfbhdbfplghaaGreatH24
import Derived.WalkArith
import Derived.Test.YtijfbhdbfplghaaGreatH11
namespace Go.Proofs.YtijfbhdbfplghaaGreat
open Go.RowKit
set_option maxRecDepth 100000 in
set_option maxHeartbeats 2000000 in
theorem find_is (A : Option Addr) (n cap : Nat) (l : List Am) (k : Ky) (o : Option Vl) (w : World) (h : RowV w A n cap l) (hk : k.Ok) (hn : n ≤ 5000) (ho : Hid (fnd l k = o)) : Calls Tryz.prog 80 #[.slice A n cap, .agg k.cells.toArray] w (GivesV w o) := by
  have hz := zero30
  have H := Lib.hid h
  have HK := Lib.hid hk
  have Q0 := Lib.hid ((blk_alloc w 53 k.cells).alloc (.cells vzero.cells.toArray 56))
  have R0 := Lib.hid (blk2 w (.cells k.cells.toArray 53) 56 vzero.cells)
  have B0 := Lib.hid (step_ (new_below w (.cells k.cells.toArray 53)) (new_below _ (.cells vzero.cells.toArray 56)))
  clear h hk
  go_enter Tryz.func80, Tryz.ntmps80
  go_wp2_with fail
  go_loopw [6] (fun i wr => ∃ j : Nat, j ≤ n ∧ i = .int .i64 j ∧ fnd (l.drop j) k = o ∧ Below w.heap.size w wr ∧ Blk wr w.heap.size 53 k.cells ∧ Blk wr (w.heap.size + 1) 56 vzero.cells) (fun i _ => n - (intOf i).toNat)
  case atStart => exact ⟨0, Nat.zero_le _, rfl, ho.out, B0.out, Q0.out, R0.out⟩
  case round =>
    obtain ⟨j, hj, rfl, hf, hb, hq, hr⟩ := hrel
    have HF := Lib.hid hf
    have BB := Lib.hid hb
    have QQ := Lib.hid hq
    have RR := Lib.hid hr
    clear hf hb hq hr
    by_cases hlt : j < n
    · obtain ⟨G, p, hE⟩ := (H.out.below BB.out).elem j hlt
      have E := Lib.hid hE
      have T := Lib.hid (drop_getD (l := l) (j := j) (by have := H.out.len; omega))
      obtain ⟨x, hx⟩ : ∃ x, l.getD j azero = x := ⟨_, rfl⟩
      rw [hx] at E T
      clear hE hx
      by_cases hkk : x.k = k
      · have HE := Lib.hid (show decide (x.k = k) = true from decide_eq_true hkk)
        have HO := Lib.hid (show o = some x.v by rw [← HF.out, T.out, fnd, if_pos hkk])
        clear hkk
        go_wp2_with fail
        refine region_later (by kernel_rfl) (by kernel_rfl) ?_
        go_big_quiet_step (fail)
        go_big_quiet_step (fail)
        (go_big_quiet_want; refine quiet_index _ _ rfl A n cap G p j x _ rfl rfl (by first | rfl | omega) E.out ?_; go_simp; go_big_quiet_on)
        go_big_quiet_step (fail)
        (go_big_quiet_want; refine quiet_load_kyx G p x.k _ rfl rfl (range_ak E.out.rg) E.out.blk E.out.ok.k.ml ?_; go_simp; go_big_quiet_on)
        (go_big_quiet_want; refine quiet_load_kyx w.heap.size 0 k _ rfl rfl QQ.out.range QQ.out.lt HK.out.ml ?_; go_simp; go_big_quiet_on)
        (go_big_quiet_want; refine quiet_eq_ky _ _ _ rfl x.k k true rfl rfl E.out.ok.k HK.out HE.out ?_; go_simp; go_big_quiet_on)
        refine wpQuiet_nil ?_
        intro w2 hw2
        have E2 := Lib.hid (E.out.below hw2)
        have R2 := Lib.hid (RR.out.below hw2)
        have B2 := Lib.hid (step_ BB.out hw2)
        clear hw2
        go_wp2_with (first
          | go_skip
          | refine wpList_index rfl _ _ rfl A n cap G p j x _ rfl rfl (by first | rfl | omega) E2.out ?_
          | refine wpList_load_vl rfl _ rfl G (p + 12) x.v rfl (range_av E2.out.rg E2.out.ok) E2.out.ok.v.tl ?_
          | (refine wpList_store_vl rfl _ _ rfl (w.heap.size + 1) vzero x.v rfl rfl R2.out rfl E2.out.ok.v.tl ?_; intro w3 N3 O3))
        refine bodyPost_ret (results_vlB rfl _ _ (w.heap.size + 1) x.v rfl N3.out E2.out.ok.v.tl) rfl ?_
        exact ⟨by rw [HO.out]; rfl, B2.out.trans (O3.out.below (Nat.le_succ _) B2.out.size)⟩
      · have HE := Lib.hid (show decide (x.k = k) = false from decide_eq_false hkk)
        have HO := Lib.hid (show fnd (l.drop (j + 1)) k = o by rw [← HF.out, T.out]; unfold fnd; rw [if_neg hkk]; cases l.drop (j + 1) <;> rfl)
        clear hkk
        go_wp2_with fail
        refine region_later (by kernel_rfl) (by kernel_rfl) ?_
        go_big_quiet_step (fail)
        go_big_quiet_step (fail)
        (go_big_quiet_want; refine quiet_index _ _ rfl A n cap G p j x _ rfl rfl (by first | rfl | omega) E.out ?_; go_simp; go_big_quiet_on)
        go_big_quiet_step (fail)
        (go_big_quiet_want; refine quiet_load_kyx G p x.k _ rfl rfl (range_ak E.out.rg) E.out.blk E.out.ok.k.ml ?_; go_simp; go_big_quiet_on)
        (go_big_quiet_want; refine quiet_load_kyx w.heap.size 0 k _ rfl rfl QQ.out.range QQ.out.lt HK.out.ml ?_; go_simp; go_big_quiet_on)
        (go_big_quiet_want; refine quiet_eq_ky _ _ _ rfl x.k k false rfl rfl E.out.ok.k HK.out HE.out ?_; go_simp; go_big_quiet_on)
        refine wpQuiet_nil ?_
        intro w2 hw2
        have Q2 := Lib.hid (QQ.out.below hw2)
        have R2 := Lib.hid (RR.out.below hw2)
        have B2 := Lib.hid (step_ BB.out hw2)
        clear hw2
        go_wp2_with fail
        go_roundw
        case rel => exact ⟨j + 1, by omega, by go_num, HO.out, B2.out, Q2.out, R2.out⟩
        case measure => simp [intOf]; omega
    · obtain rfl : j = n := by omega
      have HO := Lib.hid (show o = none by rw [← HF.out, List.drop_of_length_le (by have := H.out.len; omega)]; rfl)
      go_wp2_with (first
          | go_skip
          | refine wpList_build rfl 56 _ rfl [] rfl _ built30_0 ?_
          | (refine wpList_store_vl rfl _ _ rfl (w.heap.size + 1) vzero vzero rfl rfl RR.out rfl rfl ?_; intro w3 N3 O3))
      refine bodyPost_ret (results_vlB rfl _ _ (w.heap.size + 1) vzero rfl N3.out rfl) rfl ?_
      exact ⟨by rw [HO.out]; rfl, BB.out.trans (O3.out.below (Nat.le_succ _) BB.out.size)⟩
end Go.Proofs.YtijfbhdbfplghaaGreat
namespace Go.Proofs.YtijfbhdbfplghaaGreat
open Go.RowKit
set_option maxRecDepth 100000 in
set_option maxHeartbeats 2000000 in
theorem refFind_is (A : Option Addr) (n cap : Nat) (l : List Am) (k : Ky) (o : Option Vl) (w : World) (h : RowV w A n cap l) (hk : k.Ok) (hn : n ≤ 1000) (ho : Hid (gt l k = o)) : Calls Tryz.prog 63 #[.slice A n cap, .agg k.cells.toArray] w (GivesV w o) := by
  have hz := zero30
  have HO := Lib.hid (show fnd (norm l) k = o by rw [fnd_norm h.ok]; exact ho.out)
  have OV := Lib.hid (show (o.getD vzero).Ok from getD_ok (ho.out ▸ (gt_ok h.ok).o k))
  have H := Lib.hid h
  have HK := Lib.hid hk
  have Q0 := Lib.hid ((blk_alloc w 53 k.cells).alloc (.cells vzero.cells.toArray 56))
  have Z0 := Lib.hid (blk2 w (.cells k.cells.toArray 53) 56 vzero.cells)
  have B0 := Lib.hid (step_ (new_below w (.cells k.cells.toArray 53)) (new_below _ (.cells vzero.cells.toArray 56)))
  clear h hk ho
  go_enter Tryz.func63, Tryz.ntmps63
  go_wp2_with fail
  obtain ⟨V, hV⟩ : ∃ V, (w.alloc (.cells k.cells.toArray 53)).alloc (.cells vzero.cells.toArray 56) = V := ⟨_, rfl⟩
  rw [hV] at Q0 Z0 B0 ⊢
  clear hV
  have S1 := Lib.hid (show Below w.heap.size w V.drew ∧ Blk V.drew w.heap.size 53 k.cells from ⟨below_drew B0.out, Q0.out.drew⟩)
  have Z1 := Lib.hid Z0.out.drew
  refine wp_region_noPanic ?_
  refine wp_region_held_drew (S := fun W => Below w.heap.size w W ∧ Blk W w.heap.size 53 k.cells) (by kernel_rfl) S1.out (fun _ => ?_)
  refine tkm 0 rfl S1.out ?_; try simp only [Act.put, stA, stZ, stS]
  refine tky 2 (.agg k.cells.toArray) rfl (yieldsIf_load_mid (by rfl) 53 (.tmp 3) rfl w.heap.size 0 rfl k.cells _ (fun W hW => hW.2.range) Tryz.underlying53 rfl (size27 HK.out.ml)) S1.out ?_; try simp only [Act.put, stA, stZ, stS]
  refine rdy [1] ?_
  refine AllReadyH.cons (arR rfl) (fun K hK => ?_) AllReadyH.nil
  go_simp
  refine (refNorm_is A n cap l _ (H.out.below S1.out.1) hn).mono ?_
  rintro e w1 ⟨⟨A1, n1, c1, rfl, r1⟩, b1⟩
  have S2 := Lib.hid (show Below w.heap.size w w1 ∧ Blk w1 w.heap.size 53 k.cells from ⟨step_ S1.out.1 b1, S1.out.2.below b1⟩)
  have Z2 := Lib.hid (Z1.out.below b1)
  have R1 := Lib.hid r1
  have N1 := Lib.hid (show n1 ≤ 5000 by have := norm_len l; rw [R1.out.len, H.out.len] at this; omega)
  clear b1 r1
  go_wp2_with fail
  refine hK.out _ _ ?_ (fun _ => ?_)
  · exact S2.out
  clear hK K
  try simp only [Act.put, stA, stZ, stS]
  refine rdy [3] ?_
  refine AllReadyH.cons (arR rfl) (fun K hK => ?_) AllReadyH.nil
  go_simp
  refine (find_is A1 n1 c1 (norm l) k o _ R1.out HK.out N1.out HO).mono ?_
  rintro e w2 ⟨rfl, b2⟩
  have S3 := Lib.hid (show Below w.heap.size w w2 ∧ Blk w2 w.heap.size 53 k.cells from ⟨step_ S2.out.1 b2, S2.out.2.below b2⟩)
  have Z3 := Lib.hid (Z2.out.below b2)
  clear b2
  go_wp2_with fail
  refine hK.out _ _ ?_ (fun _ => ?_)
  · exact S3.out
  clear hK K
  try simp only [Act.put, stA, stZ, stS]
  refine tkm 4 rfl S3.out ?_; try simp only [Act.put, stA, stZ, stS]
  refine tkm 5 rfl S3.out ?_; try simp only [Act.put, stA, stZ, stS]
  refine rdy [6] ?_
  refine ready_store_vl (arR rfl) rfl _ _ rfl (w.heap.size + 1) vzero (o.getD vzero) rfl rfl Z3.out rfl OV.out.tl (fun w3 N3 O3 => ?_) AllReadyH.nil
  have S4 := Lib.hid (show Below w.heap.size w w3 ∧ Blk w3 w.heap.size 53 k.cells from ⟨S3.out.1.trans (O3.below (Nat.le_succ _) S3.out.1.size), S3.out.2.only O3 (by omega)⟩)
  refine ⟨S4.out, ?_⟩
  simp only [Act.put]
  refine tkm 7 rfl S4.out ?_; try simp only [Act.put, stA, stZ, stS]
  refine wpAnyH_done (by kernel_rfl) ?_ _
  refine NoPanic.normal ?_
  go_wp2_with fail
  refine bodyPost_ret (results_vlB rfl _ _ (w.heap.size + 1) (o.getD vzero) rfl N3 OV.out.tl) rfl ?_
  exact ⟨rfl, S4.out.1⟩
end Go.Proofs.YtijfbhdbfplghaaGreat
namespace Go.Proofs.YtijfbhdbfplghaaGreat
open Go.RowKit
end Go.Proofs.YtijfbhdbfplghaaGreat
namespace Go.Proofs.YtijfbhdbfplghaaGreat
open Go.RowKit
theorem drop_getDG {α : Type} (z : α) {l : List α} {j : Nat} (h : j < l.length) : l.drop j = l.getD j z :: l.drop (j + 1) := by
  rw [List.drop_eq_getElem_cons h]; simp [List.getD, List.getElem?_eq_getElem h]
theorem exec_neq_nm {o : Oper} {a : Act} {w : World} (x y : Operand) (ty : TypeId) (ho : o.op = .binOp .neq 25 x y ty) (m n : List Int) (hx : a.eval x = .agg (nm m)) (hy : a.eval y = .agg (nm n)) (hm : m.length = 8) (hn : n.length = 8) :
    (execOp a.eval o).run Tryz.prog w = .ok (.value (.bool (!(m == n)))) w := by
  unfold execOp
  simp only [ho, hx, hy, Sem.run_bind, run_eqGuard_agg w .neq 25 x y _ _ eqg24, Result.andThen_ok, run_neq_struct, eql23 m n hm hn 9998 w, Sem.run_pure]
theorem quiet_neq_nm {o : Oper} {a : Act} {W : World} {K : Act → Prop} (x y : Operand) (t : TypeId) (ho : o.op = .binOp .neq 25 x y t) (m n : List Int) (b : Bool) (hx : a.eval x = .agg (nm m)) (hy : a.eval y = .agg (nm n)) (hm : m.length = 8) (hn : n.length = 8) (hb : (!decide (m = n)) = b)
    (hk : K (a.put o.dst (.bool b))) : o.quiet Tryz.prog a (Cls W) K := quiet_val _ (fun _ => by
      have e : (!(m == n)) = b := by rw [← hb]; by_cases h : m = n <;> simp [h]
      rw [exec_neq_nm x y t ho m n hx hy hm hn, e]) hk
theorem quiet_load_nmx {o : Oper} {a : Act} {W : World} {K : Act → Prop} (G off : Nat) (m : List Int) (x : Operand) (ho : o.op = .load 25 x) (hx : a.eval x = .pointer (some ⟨G, off, none⟩)) (hat : W.rangeAt G off (nmL m)) (hG : G < W.heap.size) (hm : m.length = 8)
    (hk : K (a.put o.dst (.agg (nm m)))) : o.quiet Tryz.prog a (Cls W) K := quiet_load_cs 25 G off (nmL m) _ x ho hx hat hG Tryz.underlying25 rfl (by rw [show (nmL m).length = 8 by unfold nmL; rw [List.length_map]; exact hm]; exact size23) hk
end Go.Proofs.YtijfbhdbfplghaaGreat
namespace Go.Proofs.YtijfbhdbfplghaaGreat
open Go.RowKit
theorem ac1 (a : Am) : a.cells[1]? = some (.int .u16 a.k.c) := rfl
end Go.Proofs.YtijfbhdbfplghaaGreat
namespace Go.Proofs.YtijfbhdbfplghaaGreat
open Go.RowKit
end Go.Proofs.YtijfbhdbfplghaaGreat
namespace Go.Proofs.YtijfbhdbfplghaaGreat
open Go.RowKit
end Go.Proofs.YtijfbhdbfplghaaGreat
namespace Go.Proofs.YtijfbhdbfplghaaGreat
open Go.RowKit Go.Shelf Go.Maps
attribute [local go_sem] Oper.semAt_some
set_option maxRecDepth 100000 in
set_option maxHeartbeats 2000000 in
theorem only_is (A : Option Addr) (n cap : Nat) (a : List Am) (c : Int) (w : World) (h : RowV w A n cap a) (hl : n ≤ 5000) : Calls Tryz.prog 25 #[.slice A n cap, .int .u16 c] w (GivesO w (onC c a)) := by
  have H := Lib.hid h
  clear h
  have hz := zero32
  go_enter Tryz.func25, Tryz.ntmps25
  go_wp2_with fail
  go_loopw [5, 10] (fun o i wr => ∃ j : Nat, j ≤ n ∧ i = .int .i64 (j : Int) ∧ OwnR wr w.heap.size o (onC c (a.take j)) ∧ Below w.heap.size w wr) (fun _ i _ => n - (intOf i).toNat)
  case atStart => exact ⟨0, Nat.zero_le _, rfl, ownR_nil _ _, Below.refl _ _⟩
  case round =>
    obtain ⟨j, hj, rfl, ho, hb⟩ := hrel
    have OO := Lib.hid ho
    have BB := Lib.hid hb
    clear ho hb
    by_cases hlt : j < n
    · obtain ⟨G, p, hE⟩ := (H.out.below BB.out).elem j hlt
      have TK := Lib.hid (take_getD (l := a) (j := j) (by have := H.out.len; omega))
      obtain ⟨x, hx⟩ : ∃ x, a.getD j azero = x := ⟨_, rfl⟩
      rw [hx] at hE TK
      have E := Lib.hid hE
      have XO := Lib.hid hE.ok
      have Z := Lib.hid (blk_alloc wr 58 azero.cells)
      have SN := Lib.hid (onC_snoc c (a.take j) x)
      have DL := Lib.hid (show (onC c (a.take j)).length ≤ 5000 by have h1 := onC_len c (a.take j); have h2 := List.length_take_le j a; have := H.out.len; omega)
      clear hE hx
      by_cases hc : x.k.c = c
      · have CE : (x.k.c == c) = true := by simp [hc]
        rw [if_pos hc, ← TK.out] at SN
        clear hc
        go_wp2_with (first
          | go_skip
          | (refine wpList_val rfl _ (exec_lt _ _ rfl (j : Int) (n : Int) true rfl rfl (decide_eq_true (by omega))) ?_)
          | refine wpList_index rfl _ _ rfl A n cap G p j x _ rfl rfl (by first | rfl | omega) E.out ?_
          | refine wpList_load_amx rfl _ rfl G p x rfl E.out.rg XO.out ?_
          | (refine wpList_store_am rfl _ _ rfl wr.heap.size azero x rfl rfl Z.out azero_ok XO.out ?_; intro w2 N2 O2; have B2 := Lib.hid (box_below O2.out); have c1 := N2.out.cell (i := 1) (ac1 x))
          | refine wpList_load_am rfl _ rfl wr.heap.size x rfl N2.out XO.out ?_
          | (refine wpList_one46 rfl _ rfl x rfl XO.out ?_; intro g4 w4 e4 N4 Q4)
          | (refine wpList_app rfl _ _ rfl w.heap.size _ (onC c (a.take j)) x g4 rfl rfl ((OO.out.below B2.out).below Q4.out) XO.out N4.out DL.out (Nat.le_trans BB.out.size (Nat.le_trans B2.out.size Q4.out.size)) ?_; intro D5 m5 c5 w5 e5 O5 Q5 G5))
        go_roundw
        case rel => exact ⟨j + 1, by omega, by go_num, by rw [SN.out]; exact O5.out, ((BB.out.trans (B2.out.mono BB.out.size)).trans (Q4.out.mono (Nat.le_trans BB.out.size B2.out.size))).trans Q5.out⟩
        case measure => simp [intOf]; omega
      · have CE : (x.k.c == c) = false := by simp [hc]
        rw [if_neg hc, ← TK.out] at SN
        clear hc
        go_wp2_with (first
          | go_skip
          | (refine wpList_val rfl _ (exec_lt _ _ rfl (j : Int) (n : Int) true rfl rfl (decide_eq_true (by omega))) ?_)
          | refine wpList_index rfl _ _ rfl A n cap G p j x _ rfl rfl (by first | rfl | omega) E.out ?_
          | refine wpList_load_amx rfl _ rfl G p x rfl E.out.rg XO.out ?_
          | (refine wpList_store_am rfl _ _ rfl wr.heap.size azero x rfl rfl Z.out azero_ok XO.out ?_; intro w2 N2 O2; have B2 := Lib.hid (box_below O2.out); have c1 := N2.out.cell (i := 1) (ac1 x)))
        go_roundw
        case rel => exact ⟨j + 1, by omega, by go_num, by rw [SN.out]; exact OO.out.below B2.out, step_ BB.out B2.out⟩
        case measure => simp [intOf]; omega
    · obtain rfl : j = n := by omega
      have HS := Lib.hid (show a.take j = a from List.take_of_length_le (by have := H.out.len; omega))
      go_wp2_with fail
      go_ret
      rw [HS.out] at OO
      exact GivesO.own OO.out BB.out
/-! The keys of the groups: the cart, or the item. -/
theorem keyedC : Keyed Tryz.prog 23 := int_keyed Tryz.underlying23
instance kCart : Inhabited (MKd Int) := ⟨{
  tk := 23,
  mt := 70,
  kv := fun c => .int .u16 c,
  ok := fun c => 0 ≤ c ∧ c < 65536,
  keyed := keyedC,
  lit := fun c h => ⟨_, keyOf_int_mk Tryz.underlying23 (WalkArith.wf_u16 (by omega))⟩,
  inj := fun a b _ _ h => by injection h,
  under := Tryz.underlying70 }⟩
theorem cartKey_is (k : Ky) (w : World) : Calls Tryz.prog 35 #[.agg k.cells.toArray] w fun e w' => e = .returned (.int .u16 k.c) ∧ Below w.heap.size w w' := by
  have K0 := Lib.hid (blk_alloc w 53 k.cells)
  have B0 := Lib.hid (new_below w (.cells k.cells.toArray 53))
  have c1 := K0.out.cell (i := 1) (kc1 k)
  go_enter Tryz.func35, Tryz.ntmps35
  go_wp2_with fail
  go_ret
  exact ⟨rfl, B0.out⟩
theorem itemKey_is (k : Ky) (w : World) (hm : k.m.length = 8) : Calls Tryz.prog 57 #[.agg k.cells.toArray] w fun e w' => e = .returned (.agg (nm k.m)) ∧ Below w.heap.size w w' := by
  have K0 := Lib.hid (blk_alloc w 53 k.cells)
  have B0 := Lib.hid (new_below w (.cells k.cells.toArray 53))
  have HM := Lib.hid hm
  have hz := zero23
  have K1 := Lib.hid (K0.out.below (new_below _ (.cells (nm M.zero8) 25)))
  have Z1 := Lib.hid (blk_alloc (w.alloc (.cells k.cells.toArray 53)) 25 (nmL M.zero8))
  have GZ : (w.alloc (.cells k.cells.toArray 53)).heap.size = w.heap.size + 1 := by simp
  rw [GZ] at Z1
  clear hm GZ
  go_enter Tryz.func57, Tryz.ntmps57
  go_wp2_with (first
    | refine wpList_load_nm rfl _ rfl w.heap.size 2 k.m rfl (range_knm K1.out.range HM.out) HM.out ?_
    | (refine wpList_store_cs rfl 25 _ _ rfl (w.heap.size + 1) (nmL M.zero8) (nmL k.m) rfl rfl Z1.out (by unfold nmL; rw [List.length_map, List.length_map, HM.out]; rfl) (size_nmL HM.out) (nm_one k.m) ?_; intro w2 N2 O2))
  refine bodyPost_ret (results_one rfl _ _ (w.heap.size + 1) k.m rfl N2.out HM.out) rfl ?_
  exact ⟨rfl, B0.out.trans (((new_below _ (.cells (nm M.zero8) 25)).trans (O2.out.below (by simp) (by simp))).mono (by simp))⟩
end Go.Proofs.YtijfbhdbfplghaaGreat
namespace Go.Proofs.YtijfbhdbfplghaaGreat
def swp (l : List Int) (i j : Nat) : List Int := (l.set i (l.getD j 0)).set j (l.getD i 0)
theorem swp_len (l : List Int) (i j : Nat) : (swp l i j).length = l.length := by unfold swp; rw [List.length_set, List.length_set]
theorem getD_set0 (l : List Int) (i k : Nat) (x : Int) (hi : i < l.length) : (l.set i x).getD k 0 = if k = i then x else l.getD k 0 := by
  simp only [List.getD_eq_getElem?_getD, List.getElem?_set]
  by_cases e : i = k
  · subst e; simp [hi]
  · rw [if_neg e, if_neg (fun h => e h.symm)]
theorem swp_get {l : List Int} {i j : Nat} (hi : i < l.length) (hj : j < l.length) (k : Nat) : (swp l i j).getD k 0 = if k = j then l.getD i 0 else if k = i then l.getD j 0 else l.getD k 0 := by
  unfold swp
  rw [getD_set0 _ _ _ _ (by rw [List.length_set]; exact hj), getD_set0 _ _ _ _ hi]
theorem swp_perm {l : List Int} {i j : Nat} (hi : i < l.length) (hj : j < l.length) : (swp l i j).Perm l := by
  unfold swp
  rw [List.getD_eq_getElem?_getD, List.getD_eq_getElem?_getD, List.getElem?_eq_getElem hi, List.getElem?_eq_getElem hj, Option.getD_some, Option.getD_some]
  exact List.set_set_perm hi hj
/-- m is l after exchanges in the range from a to b. -/
inductive Per (a b : Nat) : List Int → List Int → Prop
  | refl (l : List Int) : Per a b l l
  | swap {l m : List Int} {i j : Nat} : Per a b l m → a ≤ i → i < b → a ≤ j → j < b → b ≤ m.length → Per a b l (swp m i j)
theorem Per.len {a b : Nat} {l m : List Int} (h : Per a b l m) : m.length = l.length := by
  induction h with
  | refl => rfl
  | swap _ _ _ _ _ _ ih => rw [swp_len, ih]
theorem Per.trans {a b : Nat} {l m k : List Int} (h : Per a b l m) (g : Per a b m k) : Per a b l k := by
  induction g with
  | refl => exact h
  | swap _ h1 h2 h3 h4 h5 ih => exact .swap ih h1 h2 h3 h4 h5
theorem Per.mono {a b c d : Nat} {l m : List Int} (h : Per a b l m) (h1 : c ≤ a) (h2 : b ≤ d) (h3 : d ≤ l.length) : Per c d l m := by
  induction h with
  | refl => exact .refl _
  | swap g h4 h5 h6 h7 h8 ih => exact .swap ih (by omega) (by omega) (by omega) (by omega) (by have := g.len; omega)
theorem Per.perm {a b : Nat} {l m : List Int} (h : Per a b l m) : m.Perm l := by
  induction h with
  | refl => exact List.Perm.refl _
  | swap _ h1 h2 h3 h4 h5 ih => exact (swp_perm (by omega) (by omega)).trans ih
theorem Per.out {a b : Nat} {l m : List Int} (h : Per a b l m) {k : Nat} (hk : k < a ∨ b ≤ k) : m.getD k 0 = l.getD k 0 := by
  induction h with
  | refl => rfl
  | swap _ h1 h2 h3 h4 h5 ih => rw [swp_get (by omega) (by omega), if_neg (by omega), if_neg (by omega), ih]
theorem Per.all {a b : Nat} {l m : List Int} (h : Per a b l m) {Q : Int → Prop} (hq : ∀ k, a ≤ k → k < b → Q (l.getD k 0)) : ∀ k, a ≤ k → k < b → Q (m.getD k 0) := by
  induction h with
  | refl => exact hq
  | @swap m i j _ h1 h2 h3 h4 h5 ih =>
    intro k hk hk2
    rw [swp_get (by omega) (by omega)]
    split
    · exact ih i h1 h2
    · split
      · exact ih j h3 h4
      · exact ih k hk hk2
theorem Per.one {a b i j : Nat} {l : List Int} (h1 : a ≤ i) (h2 : i < b) (h3 : a ≤ j) (h4 : j < b) (h5 : b ≤ l.length) : Per a b l (swp l i j) := .swap (.refl l) h1 h2 h3 h4 h5
/-- Sorted from a up to b. -/
def Sd (l : List Int) (a b : Nat) : Prop := ∀ p q, a ≤ p → p < q → q < b → l.getD p 0 ≤ l.getD q 0
theorem sd_small {l : List Int} {a b : Nat} (h : b ≤ a + 1) : Sd l a b := fun p q h1 h2 h3 => by omega
theorem Sd.snoc {l : List Int} {a b : Nat} (h : Sd l a b) (hab : a < b) (h2 : l.getD (b - 1) 0 ≤ l.getD b 0) : Sd l a (b + 1) := fun p q h3 h4 h5 => by
  by_cases e : q = b
  · subst e
    by_cases e2 : p = q - 1
    · subst e2; exact h2
    · exact Int.le_trans (h p (q - 1) h3 (by omega) (by omega)) h2
  · exact h p q h3 h4 (by omega)
theorem Sd.mono {l : List Int} {a b c d : Nat} (h : Sd l a b) (h1 : a ≤ c) (h2 : d ≤ b) : Sd l c d := fun p q h3 h4 h5 => h p q (by omega) h4 (by omega)
theorem Sd.eqv {l m : List Int} {a b : Nat} (h : Sd l a b) (he : ∀ k, a ≤ k → k < b → m.getD k 0 = l.getD k 0) : Sd m a b := fun p q h3 h4 h5 => by rw [he p h3 (by omega), he q (by omega) h5]; exact h p q h3 h4 h5
/-! Insertion. -/
def InsI (l : List Int) (a i j : Nat) : Prop := ∀ p q, a ≤ p → p < q → q ≤ i → q ≠ j → l.getD p 0 ≤ l.getD q 0
theorem ins_start {l : List Int} {a i : Nat} (h : Sd l a i) : InsI l a i i := fun p q h1 h2 h3 h4 => h p q h1 h2 (by omega)
theorem ins_step {l : List Int} {a i j : Nat} (h : InsI l a i j) (h1 : a < j) (h2 : j ≤ i) (h3 : i < l.length) (hl : l.getD j 0 < l.getD (j - 1) 0) : InsI (swp l j (j - 1)) a i (j - 1) := by
  intro p q g1 g2 g3 g4
  rw [swp_get (by omega) (by omega), swp_get (by omega) (by omega)]
  rw [if_neg g4]
  by_cases e : q = j
  · subst e
    rw [if_pos rfl]
    by_cases e2 : p = q - 1
    · rw [if_pos e2]; omega
    · rw [if_neg e2, if_neg (by omega)]; exact h p (q - 1) g1 (by omega) (by omega) (by omega)
  · rw [if_neg e]
    by_cases e2 : p = j - 1
    · rw [if_pos e2]
      by_cases e3 : q < j
      · omega
      · exact h j q (by omega) (by omega) g3 e
    · rw [if_neg e2]
      by_cases e3 : p = j
      · rw [if_pos e3]; exact h (j - 1) q (by omega) (by omega) g3 e
      · rw [if_neg e3]; exact h p q g1 g2 g3 e
theorem ins_end {l : List Int} {a i j : Nat} (h : InsI l a i j) (h1 : a ≤ j) (h2 : j ≤ i) (hl : j = a ∨ l.getD (j - 1) 0 ≤ l.getD j 0) : Sd l a (i + 1) := by
  intro p q g1 g2 g3
  by_cases e : q = j
  · subst e
    rcases hl with hl | hl
    · omega
    · by_cases e2 : p = q - 1
      · subst e2; exact hl
      · exact Int.le_trans (h p (q - 1) g1 (by omega) (by omega) (by omega)) hl
  · exact h p q g1 g2 (by omega) e
/-! Heaps: the greatest first, in the range behind f. -/
def HpF (l : List Int) (f lo hi : Nat) : Prop := ∀ p c, lo ≤ p → c = 2 * p + 1 ∨ c = 2 * p + 2 → c < hi → l.getD (f + c) 0 ≤ l.getD (f + p) 0
structure SiftI (l : List Int) (f lo hi r : Nat) : Prop where
  out : ∀ p c, lo ≤ p → p ≠ r → c = 2 * p + 1 ∨ c = 2 * p + 2 → c < hi → l.getD (f + c) 0 ≤ l.getD (f + p) 0
  up : ∀ p c, lo ≤ p → r = 2 * p + 1 ∨ r = 2 * p + 2 → c = 2 * r + 1 ∨ c = 2 * r + 2 → c < hi → l.getD (f + c) 0 ≤ l.getD (f + p) 0
theorem sift_start {l : List Int} {f lo hi : Nat} (h : HpF l f (lo + 1) hi) : SiftI l f lo hi lo :=
  ⟨fun p c h1 h2 h3 h4 => h p c (by omega) h3 h4, fun p c h1 h2 _ _ => by omega⟩
theorem sift_end {l : List Int} {f lo hi r : Nat} (h : SiftI l f lo hi r) (hr : ∀ c, c = 2 * r + 1 ∨ c = 2 * r + 2 → c < hi → l.getD (f + c) 0 ≤ l.getD (f + r) 0) : HpF l f lo hi := fun p c h1 h2 h3 => by
  by_cases e : p = r
  · subst e; exact hr c h2 h3
  · exact h.out p c h1 e h2 h3
theorem sift_step {l : List Int} {f lo hi r c : Nat} (h : SiftI l f lo hi r) (hlo : lo ≤ r) (hc : c = 2 * r + 1 ∨ c = 2 * r + 2) (hch : c < hi) (hlen : f + hi ≤ l.length)
    (hb : ∀ d, d = 2 * r + 1 ∨ d = 2 * r + 2 → d < hi → l.getD (f + d) 0 ≤ l.getD (f + c) 0) (hl : l.getD (f + r) 0 < l.getD (f + c) 0) : SiftI (swp l (f + r) (f + c)) f lo hi c := by
  refine ⟨fun p d h1 h2 h3 h4 => ?_, fun p d h1 h2 h3 h4 => ?_⟩
  · rw [swp_get (by omega) (by omega), swp_get (by omega) (by omega)]
    by_cases e : p = r
    · subst e
      rw [if_neg (show ¬ f + p = f + c by omega), if_pos rfl]
      by_cases e2 : d = c
      · rw [if_pos (by omega)]; omega
      · rw [if_neg (by omega), if_neg (by omega)]; exact hb d h3 h4
    · rw [if_neg (show ¬ f + p = f + c by omega), if_neg (show ¬ f + p = f + r by omega)]
      by_cases e2 : d = r
      · subst e2
        rw [if_neg (by omega), if_pos rfl]
        exact h.up p c h1 h3 hc hch
      · by_cases e3 : d = c
        · omega
        · rw [if_neg (by omega), if_neg (by omega)]; exact h.out p d h1 e h3 h4
  · have e : p = r := by omega
    subst e
    rw [swp_get (by omega) (by omega), swp_get (by omega) (by omega), if_neg (by omega), if_neg (by omega), if_neg (show ¬ f + p = f + c by omega), if_pos rfl]
    exact h.out c d (by omega) (by omega) h3 h4
theorem hp_max {l : List Int} {f hi : Nat} (h : HpF l f 0 hi) : ∀ k, k < hi → l.getD (f + k) 0 ≤ l.getD f 0 := by
  intro k
  induction k using Nat.strongRecOn with
  | _ k ih =>
    intro hk
    by_cases e : k = 0
    · subst e; exact Int.le_refl _
    · have h1 := h ((k - 1) / 2) k (Nat.zero_le _) (by omega) hk
      exact Int.le_trans h1 (ih ((k - 1) / 2) (by omega) (by omega))
theorem hp_none {l : List Int} {f lo hi : Nat} (h : hi ≤ 2 * lo + 1) : HpF l f lo hi := fun p c h1 h2 h3 => by omega
/-- The end of the heap's row: sorted, and over what stands ahead of it. -/
structure HsI (l : List Int) (f hi n : Nat) : Prop where
  hp : HpF l f 0 hi
  sd : Sd l (f + hi) (f + n)
  top : ∀ p q, p < hi → hi ≤ q → q < n → l.getD (f + p) 0 ≤ l.getD (f + q) 0
theorem hs_start {l : List Int} {f n : Nat} (h : HpF l f 0 n) : HsI l f n n := ⟨h, fun p q h1 h2 h3 => by omega, fun p q h1 h2 h3 => by omega⟩
theorem hs_mid {l : List Int} {f k n : Nat} (h : HsI l f (k + 1) n) (hl : f + n ≤ l.length) (hk : k < n) : HpF (swp l f (f + k)) f 1 k := fun p c h1 h2 h3 => by
  rw [swp_get (by omega) (by omega), swp_get (by omega) (by omega), if_neg (by omega), if_neg (by omega), if_neg (by omega), if_neg (by omega)]
  exact h.hp p c (Nat.zero_le _) h2 (by omega)
theorem hs_step {l m : List Int} {f k n : Nat} (h : HsI l f (k + 1) n) (hl : f + n ≤ l.length) (hk : k < n) (hp : Per f (f + k) (swp l f (f + k)) m) (hh : HpF m f 0 k) : HsI m f k n := by
  have hm : ∀ q, q < k + 1 → l.getD (f + q) 0 ≤ l.getD f 0 := fun q hq => hp_max h.hp q hq
  have e0 : m.getD (f + k) 0 = l.getD f 0 := by rw [hp.out (.inr (Nat.le_refl _)), swp_get (by omega) (by omega), if_pos rfl]
  have e1 : ∀ q, k < q → m.getD (f + q) 0 = l.getD (f + q) 0 := fun q hq => by rw [hp.out (.inr (by omega)), swp_get (by omega) (by omega), if_neg (by omega), if_neg (by omega)]
  have all : ∀ x, (∀ q, q < k + 1 → l.getD (f + q) 0 ≤ x) → ∀ p, p < k → m.getD (f + p) 0 ≤ x := fun x hx p hpk => by
    refine hp.all (Q := fun y => y ≤ x) (fun j h1 h2 => ?_) (f + p) (by omega) (by omega)
    rw [swp_get (by omega) (by omega), if_neg (by omega)]
    split
    · exact hx k (by omega)
    · have := hx (j - f) (by omega)
      rwa [show f + (j - f) = j by omega] at this
  refine ⟨hh, fun p q h1 h2 h3 => ?_, fun p q h1 h2 h3 => ?_⟩
  · have eq : m.getD q 0 = l.getD q 0 := by have := e1 (q - f) (by omega); rwa [show f + (q - f) = q by omega] at this
    rw [eq]
    by_cases e : p = f + k
    · rw [e, e0]
      have := h.top 0 (q - f) (by omega) (by omega) (by omega)
      rwa [Nat.add_zero, show f + (q - f) = q by omega] at this
    · have ep : m.getD p 0 = l.getD p 0 := by have := e1 (p - f) (by omega); rwa [show f + (p - f) = p by omega] at this
      rw [ep]; exact h.sd p q (by omega) h2 h3
  · by_cases e : q = k
    · rw [e, e0]; exact all _ hm p h1
    · rw [e1 q (by omega)]
      exact all _ (fun j hj => h.top j q hj (by omega) h3) p h1
end Go.Proofs.YtijfbhdbfplghaaGreat
