/- slices.Equal at lines, and Same and some of package cart. Each of package cart and its iterator: called by a range over it, and by the closure of a law. Written by wip/tools/ceach_r17.py. -/
import Derived.Test.YtijfbhdbfplghaaGreatH47
import Derived.Test.YtijfbhdbfplghaaGreatH28
import Derived.Test.YtijfbhdbfplghaaGreatH29
import Derived.Test.YtijfbhdbfplghaaGreatH39
import Derived.Test.YtijfbhdbfplghaaGreatH42
namespace Go.Proofs.YtijfbhdbfplghaaGreat
open Go.RowKit Go.Shelf
attribute [local go_sem] Oper.semAt_some
set_option maxRecDepth 100000 in
theorem eqL_other (A A2 : Option Addr) (n m cap cap2 : Nat) (w : World) (hnm : (n : Int) ≠ (m : Int)) : Calls Tryz.prog 41 #[.slice A n cap, .slice A2 m cap2] w fun e w' => e = .returned (.bool false) ∧ Below w.heap.size w w' := by
  have hd : (((n : Int)) == (m : Int)) = false := beq_eq_false_iff_ne.2 hnm
  clear hnm
  go_enter Tryz.func41, Tryz.ntmps41
  go_wp2_with fail
  go_ret
  exact ⟨rfl, Below.refl _ _⟩
set_option maxRecDepth 100000 in
set_option maxHeartbeats 2000000 in
theorem eqL_len (A A2 : Option Addr) (n cap cap2 : Nat) (l m : List (List Int × Int)) (b : Bool) (w : World) (h : RowG EL w A n cap l) (h2 : RowG EL w A2 n cap2 m) (hn : n ≤ 5000) (hb : Hid (decide (l = m) = b)) : Calls Tryz.prog 41 #[.slice A n cap, .slice A2 n cap2] w fun e w' => e = .returned (.bool b) ∧ Below w.heap.size w w' := by
  have H := Lib.hid h
  have J := Lib.hid h2
  clear h h2
  go_enter Tryz.func41, Tryz.ntmps41
  go_wp2_with fail
  go_loopw [13, 5] (fun i u wr => ∃ j : Nat, j ≤ n ∧ i = .int .i64 j ∧ decide (l.drop j = m.drop j) = b ∧ Below w.heap.size w wr) (fun i _ _ => n - (intOf i).toNat)
  case atStart => exact ⟨0, Nat.zero_le _, rfl, hb.out, Below.refl _ _⟩
  case round =>
    obtain ⟨j, hj, rfl, hf, hb⟩ := hrel
    have HF := Lib.hid hf
    have BB := Lib.hid hb
    clear hf hb
    by_cases hlt : j < n
    · obtain ⟨G, p, hE⟩ := (H.out.below BB.out).elem lz j hlt
      obtain ⟨G2, p2, hE2⟩ := (J.out.below BB.out).elem lz j hlt
      have E := Lib.hid hE
      have F := Lib.hid hE2
      have T := Lib.hid (drop_getDG lz (l := l) (j := j) (by have := H.out.len; omega))
      have U := Lib.hid (drop_getDG lz (l := m) (j := j) (by have := J.out.len; omega))
      obtain ⟨x, hx⟩ : ∃ x, l.getD j lz = x := ⟨_, rfl⟩
      obtain ⟨y, hy⟩ : ∃ y, m.getD j lz = y := ⟨_, rfl⟩
      rw [hx] at E T
      rw [hy] at F U
      clear hE hx hE2 hy
      by_cases hkk : x = y
      · have HE := Lib.hid (show (!decide (x = y)) = false by simp [hkk])
        have HO := Lib.hid (show decide (l.drop (j + 1) = m.drop (j + 1)) = b by rw [← HF.out, T.out, U.out, hkk]; simp)
        clear hkk
        go_wp2_with (first
          | go_skip
          | (refine wpList_val rfl _ (exec_lt _ _ rfl (j : Int) (n : Int) true rfl rfl (decide_eq_true (by omega))) ?_))
        refine region_later (by kernel_rfl) (by kernel_rfl) ?_
        go_big_quiet_step (fail)
        go_big_quiet_step (fail)
        (go_big_quiet_want; refine quiet_indexG LL _ _ rfl A n cap G p j x _ rfl rfl (by first | rfl | omega) E.out ?_; go_simp; go_big_quiet_on)
        (go_big_quiet_want; refine quiet_load_ln G p x _ rfl rfl E.out.rg E.out.blk E.out.ok.1.1 ?_; go_simp; go_big_quiet_on)
        go_big_quiet_step (fail)
        go_big_quiet_step (fail)
        (go_big_quiet_want; refine quiet_indexG LL _ _ rfl A2 n cap2 G2 p2 j y _ rfl rfl (by first | rfl | omega) F.out ?_; go_simp; go_big_quiet_on)
        (go_big_quiet_want; refine quiet_load_ln G2 p2 y _ rfl rfl F.out.rg F.out.blk F.out.ok.1.1 ?_; go_simp; go_big_quiet_on)
        (go_big_quiet_want; refine quiet_neq_ln _ _ _ rfl x y false rfl rfl E.out.ok.1.1 F.out.ok.1.1 HE.out ?_; go_simp; go_big_quiet_on)
        refine wpQuiet_nil ?_
        intro w2 hw2
        have B2 := Lib.hid (step_ BB.out hw2)
        clear hw2
        go_wp2_with fail
        go_roundw
        case rel => exact ⟨j + 1, by omega, by go_num, HO.out, B2.out⟩
        case measure => simp [intOf]; omega
      · have HE := Lib.hid (show (!decide (x = y)) = true by simp [hkk])
        have HO := Lib.hid (show b = false by rw [← HF.out, T.out, U.out]; simp [hkk])
        clear hkk
        go_wp2_with (first
          | go_skip
          | (refine wpList_val rfl _ (exec_lt _ _ rfl (j : Int) (n : Int) true rfl rfl (decide_eq_true (by omega))) ?_))
        refine region_later (by kernel_rfl) (by kernel_rfl) ?_
        go_big_quiet_step (fail)
        go_big_quiet_step (fail)
        (go_big_quiet_want; refine quiet_indexG LL _ _ rfl A n cap G p j x _ rfl rfl (by first | rfl | omega) E.out ?_; go_simp; go_big_quiet_on)
        (go_big_quiet_want; refine quiet_load_ln G p x _ rfl rfl E.out.rg E.out.blk E.out.ok.1.1 ?_; go_simp; go_big_quiet_on)
        go_big_quiet_step (fail)
        go_big_quiet_step (fail)
        (go_big_quiet_want; refine quiet_indexG LL _ _ rfl A2 n cap2 G2 p2 j y _ rfl rfl (by first | rfl | omega) F.out ?_; go_simp; go_big_quiet_on)
        (go_big_quiet_want; refine quiet_load_ln G2 p2 y _ rfl rfl F.out.rg F.out.blk F.out.ok.1.1 ?_; go_simp; go_big_quiet_on)
        (go_big_quiet_want; refine quiet_neq_ln _ _ _ rfl x y true rfl rfl E.out.ok.1.1 F.out.ok.1.1 HE.out ?_; go_simp; go_big_quiet_on)
        refine wpQuiet_nil ?_
        intro w2 hw2
        have B2 := Lib.hid (step_ BB.out hw2)
        clear hw2
        go_wp2_with fail
        go_ret
        exact ⟨ret_bool HO.out.symm, B2.out⟩
    · obtain rfl : j = n := by omega
      have HO := Lib.hid (show b = true by rw [← HF.out, List.drop_of_length_le (by have := H.out.len; omega), List.drop_of_length_le (by have := J.out.len; omega)]; rfl)
      go_wp2_with fail
      go_ret
      exact ⟨ret_bool HO.out.symm, BB.out⟩
theorem eqL_is (A A2 : Option Addr) (n m cap cap2 : Nat) (l k : List (List Int × Int)) (b : Bool) (w : World) (h : RowG EL w A n cap l) (h2 : RowG EL w A2 m cap2 k) (hn : n ≤ 5000) (hb : Hid (decide (l = k) = b)) : Calls Tryz.prog 41 #[.slice A n cap, .slice A2 m cap2] w fun e w' => e = .returned (.bool b) ∧ Below w.heap.size w w' := by
  by_cases e : n = m
  · subst e
    exact eqL_len A A2 n cap cap2 l k b w h h2 hn hb
  · have hf : b = false := by
      rw [← hb.out]
      refine decide_eq_false (fun e2 => e ?_)
      rw [← h.len, ← h2.len, e2]
    rw [hf]
    exact eqL_other A A2 n m cap cap2 w (by omega)
theorem wcs_nm {w : World} {g : Nat} {D : Option Addr} {n cp : Nat} {t : List Int} (h : Blk w g 41 (vcs D n cp t)) : w.rangeAt g 1 (t.map (Value.int .u8)) := fun j v hv => by
  have e : (vcs D n cp t)[1 + j]? = some v := by
    unfold vcs nmL
    rw [Nat.add_comm 1 j, List.getElem?_cons_succ]
    exact hv
  exact h.cell e
set_option maxRecDepth 100000 in
theorem same_is_ (D D2 : Option Addr) (n n2 cp cp2 : Nat) (t t2 : List Int) (L L2 : List (List Int × Int)) (b : Bool) (w : World) (h : RowG EL w D n cp L) (h2 : RowG EL w D2 n2 cp2 L2) (hn : n ≤ 5000) (ht : t.length = 8) (ht2 : t2.length = 8) (hb : Hid ((decide (L = L2) && decide (t = t2)) = b)) :
    Calls Tryz.prog 21 #[.agg (vcs D n cp t).toArray, .agg (vcs D2 n2 cp2 t2).toArray] w fun e w' => e = .returned (.bool b) ∧ Below w.heap.size w w' := by
  have B0 := Lib.hid (step_ (new_below w (.cells (vcs D n cp t).toArray 41)) (new_below _ (.cells (vcs D2 n2 cp2 t2).toArray 41)))
  have K1 := Lib.hid ((blk_alloc w 41 (vcs D n cp t)).alloc (.cells (vcs D2 n2 cp2 t2).toArray 41))
  have K2 := Lib.hid (blk2 w (.cells (vcs D n cp t).toArray 41) 41 (vcs D2 n2 cp2 t2))
  have c1 := K1.out.cell (i := 0) rfl
  have c2 := K2.out.cell (i := 0) rfl
  have H := Lib.hid (h.below B0.out)
  have J := Lib.hid (h2.below B0.out)
  have T1 := Lib.hid ht
  have T2 := Lib.hid ht2
  have HB := Lib.hid hb.out
  clear h h2 hb ht ht2
  obtain ⟨r, hr⟩ : ∃ r, decide (L = L2) = r := ⟨_, rfl⟩
  have HR := Lib.hid hr
  go_enter Tryz.func21, Tryz.ntmps21
  go_wp2_with fail
  refine (eqL_is D D2 n n2 cp cp2 L L2 r _ H.out J.out hn HR).mono ?_
  rintro e w1 ⟨rfl, b1⟩
  have B1 := Lib.hid (step_ B0.out b1)
  have R1 := Lib.hid (wcs_nm (K1.out.below b1))
  have R2 := Lib.hid (wcs_nm (K2.out.below b1))
  rw [hr] at HB
  clear b1 hr
  cases r with
  | false =>
    have HF := Lib.hid (show false = b by rw [← HB.out, Bool.false_and])
    go_wp2_with fail
    go_ret
    exact ⟨by rw [← HF.out]; rfl, B1.out⟩
  | true =>
    have HE := Lib.hid (show (t == t2) = b by rw [← HB.out, Bool.true_and]; by_cases e : t = t2 <;> simp [e])
    go_wp2_with (first
      | (refine wanted_on rfl ?_; refine wpList_load_nm rfl _ rfl w.heap.size 1 t rfl R1.out T1.out ?_)
      | (refine wanted_on rfl ?_; refine wpList_load_nm rfl _ rfl (w.heap.size + 1) 1 t2 rfl R2.out T2.out ?_)
      | (refine wanted_on rfl ?_; refine wpList_val rfl _ (exec_eq_nm _ _ _ rfl t t2 rfl rfl T1.out T2.out) ?_; rw [HE.out]))
    go_ret
    exact ⟨rfl, B1.out⟩
set_option maxRecDepth 100000 in
theorem nameSome_is (t : List Int) (b : Bool) (w : World) (ht : t.length = 8) (hb : Hid ((!(t == M.zero8)) = b)) : Calls Tryz.prog 62 #[.agg (nm t)] w fun e w' => e = .returned (.bool b) ∧ Below w.heap.size w w' := by
  have N0 := Lib.hid (blk_alloc w 25 (nmL t))
  have B0 := Lib.hid (new_below w (.cells (nm t) 25))
  have T1 := Lib.hid ht
  clear ht
  go_enter Tryz.func62, Tryz.ntmps62
  go_wp2_with (first
    | (refine wpList_load_nm rfl _ rfl w.heap.size 0 t rfl N0.out.range T1.out ?_)
    | (refine wpList_val rfl _ (exec_neq_nm _ _ _ rfl t M.zero8 rfl rfl T1.out rfl) ?_; rw [hb.out]))
  go_ret
  exact ⟨rfl, B0.out⟩
set_option maxRecDepth 100000 in
theorem some0_is (D : Option Addr) (cp : Nat) (t : List Int) (b : Bool) (w : World) (ht : t.length = 8) (hb : Hid ((!(t == M.zero8)) = b)) : Calls Tryz.prog 39 #[.agg (vcs D 0 cp t).toArray] w fun e w' => e = .returned (.bool b) ∧ Below w.heap.size w w' := by
  have K1 := Lib.hid (blk_alloc w 41 (vcs D 0 cp t))
  have B0 := Lib.hid (new_below w (.cells (vcs D 0 cp t).toArray 41))
  have c1 := K1.out.cell (i := 0) rfl
  have R1 := Lib.hid (wcs_nm K1.out)
  have T1 := Lib.hid ht
  clear ht
  go_enter Tryz.func39, Tryz.ntmps39
  go_wp2_with (refine wanted_on rfl ?_; refine wpList_load_nm rfl _ rfl w.heap.size 1 t rfl R1.out T1.out ?_)
  refine (nameSome_is t b _ T1.out hb).mono ?_
  rintro e w1 ⟨rfl, b1⟩
  have B1 := Lib.hid (step_ B0.out b1)
  clear b1
  go_wp2_with fail
  go_ret
  exact ⟨rfl, B1.out⟩
set_option maxRecDepth 100000 in
theorem some_is_ (D : Option Addr) (n cp : Nat) (t : List Int) (b : Bool) (w : World) (ht : t.length = 8) (hb : Hid ((decide (0 < n) || !(t == M.zero8)) = b)) : Calls Tryz.prog 39 #[.agg (vcs D n cp t).toArray] w fun e w' => e = .returned (.bool b) ∧ Below w.heap.size w w' := by
  rcases Nat.eq_zero_or_pos n with rfl | h0
  · exact some0_is D cp t b w ht (Lib.hid hb.out)
  · have K1 := Lib.hid (blk_alloc w 41 (vcs D n cp t))
    have B0 := Lib.hid (new_below w (.cells (vcs D n cp t).toArray 41))
    have c1 := K1.out.cell (i := 0) rfl
    have hd := Lib.hid (show decide ((0 : Int) < (n : Int)) = true from decide_eq_true (by omega))
    have HF := Lib.hid (show true = b by rw [← hb.out, decide_eq_true h0, Bool.true_or])
    clear hb h0 ht
    go_enter Tryz.func39, Tryz.ntmps39
    go_wp2_with (refine wpList_val rfl _ (exec_gt _ _ rfl (n : Int) 0 true rfl rfl hd.out) ?_)
    go_ret
    exact ⟨by rw [← HF.out]; rfl, B0.out⟩
end Go.Proofs.YtijfbhdbfplghaaGreat
namespace Go.Proofs.YtijfbhdbfplghaaGreat
open Go.RowKit Go.Shelf Go.Maps
attribute [local go_sem] Oper.semAt_some
section
variable {K : Type} [DecidableEq K] [Inhabited (MKd K)] {ops : Array Oper} {rest : List Oper} {op : Oper} {a : Act} {w : World} {Q : Exit → Act → World → Prop}
theorem wpList_lookR (hgd : op.guard = none) (x y : Operand) (ho : op.op = .lookup (MK.mt K) x y false) (B b n : Nat) (ky : Am → K) (s : List Am) (k : K) (hx : a.eval x = .map (some b)) (hy : a.eval y = MK.kv k) (hm : Grps w B b n ky s) (hk : MK.ok k)
    (h : ∀ A m cap, Hid (RowV w A m cap (onK ky k s)) → wpList Tryz.prog ops Q rest (a.put op.dst (.slice A m cap)) w) : wpList Tryz.prog ops Q (op :: rest) a w := by
  refine wpList_plain hgd fun K' hK => ?_
  obtain ⟨v, hr, h1⟩ := hm.at_ hk
  obtain ⟨A, m, cap, rfl, h2⟩ := h1
  unfold Oper.wp execOp
  simp only [ho, hx, hy, Sem.run_bind, hr, Result.andThen_ok, Sem.run_pure]
  exact hK _ _ (h A m cap (Lib.hid h2))
end
theorem wpList_load_vw {ops : Array Oper} {rest : List Oper} {op : Oper} {a : Act} {w : World} {Q : Exit → Act → World → Prop} (hgd : op.guard = none) (x : Operand) (ho : op.op = .load 41 x) (g : Nat) (D : Option Addr) (n cp : Nat) (t : List Int)
    (hx : a.eval x = .pointer (some ⟨g, 0, none⟩)) (hr : Blk w g 41 (vcs D n cp t)) (hm : t.length = 8) (h : wpList Tryz.prog ops Q rest (a.put op.dst (.agg (vcs D n cp t).toArray)) w) : wpList Tryz.prog ops Q (op :: rest) a w :=
  wpList_load_mid hgd 41 x ho g 0 hx (vcs D n cp t) _ hr.range undW rfl (size_w hm) h
theorem OwnN.seg {w w' : World} {B : Nat} {v : Value} {l : List Int} (h : OwnN w B v l) (he : ∀ k, B ≤ k → k < w.heap.size → w'.heap[k]? = w.heap[k]?) : OwnN w' B v l := by
  have h2 := h.row
  refine ⟨h.ok, h2.1, ?_⟩
  rcases h2.2 with h0 | ⟨g, cap, cur, rfl, hb, hg, hn⟩
  · exact .inl h0
  · exact .inr ⟨g, cap, cur, rfl, hb, (he g hb (Array.getElem?_eq_some_iff.1 hg).1).trans hg, hn⟩
set_option maxRecDepth 100000 in
theorem keysf_is (b : Nat) (w : World) : Calls Tryz.prog 38 #[.map (some b)] w fun e w' => ∃ g, e = .returned (.func (.func 61) #[] #[.pointer (some ⟨g, 0, none⟩)]) ∧ Blk w' g 70 [.map (some b)] ∧ Below w.heap.size w w' := by
  have K0 := Lib.hid (blk_alloc w 70 [.map (some b)])
  have B0 := Lib.hid (new_below w (.cells #[.map (some b)] 70))
  go_enter Tryz.func38, Tryz.ntmps38
  go_wp2_with fail
  go_ret
  exact ⟨_, rfl, K0.out, B0.out⟩
theorem sd_pairwise {l : List Int} (h : Sd l 0 l.length) : l.Pairwise (· ≤ ·) := by
  rw [List.pairwise_iff_getElem]
  intro i j hi hj hij
  have := h i j (Nat.zero_le _) hij hj
  rwa [List.getD_eq_getElem?_getD, List.getD_eq_getElem?_getD, List.getElem?_eq_getElem hi, List.getElem?_eq_getElem hj] at this
/-- The sorted keys of the groups, cut to the carts that are read full, are the carts. -/
theorem keys_carts {w : World} {B b n : Nat} {s : List Am} {f : Int → Option Value} (hs : OkR s) (hf : MapG w b n f) (hg : GrpF w B f (fun x : Am => x.k.c) s fun _ => True) {m s' : List Int} (h1 : FinG f n s') (hp : m.Perm s') (hd : Sd m 0 m.length) :
    m.filter (fullQ s) = cartsQ s ∧ (∀ c ∈ m, 0 ≤ c ∧ c < 65536) ∧ m.length ≤ n := by
  have hm : ∀ c, c ∈ m ↔ f c ≠ none := fun c => by rw [hp.mem_iff]; exact h1.2.1 c
  refine ⟨carts_cut hs (sorted_inc (sd_pairwise hd) (hp.nodup_iff.2 h1.1)) fun c => ?_, fun c hc => ?_, by rw [hp.length_eq]; exact h1.2.2⟩
  · rw [hm]
    constructor
    · intro h
      cases e : f c with
      | none => exact absurd e h
      | some v => exact (hg.row c v trivial e).2
    · rintro ⟨x, hx, e⟩ h
      exact hg.no c trivial h x hx e
  · cases e : f c with
    | none => exact absurd e ((hm c).1 hc)
    | some v => exact hf.ok c v e
theorem filter_take {m : List Int} {p : Int → Bool} {j : Nat} (h : j < m.length) : (m.take (j + 1)).filter p = (m.take j).filter p ++ if p (m.getD j 0) = true then [m.getD j 0] else [] := by
  rw [List.take_succ_eq_append_getElem h, List.filter_append, List.getD_eq_getElem?_getD, List.getElem?_eq_getElem h]
  congr 1
  rw [Option.getD_some]
  by_cases e : p m[j] = true
  · rw [if_pos e, List.filter_cons_of_pos e]; rfl
  · rw [if_neg e, List.filter_cons_of_neg e]; rfl
theorem filter_next {m : List Int} {p : Int → Bool} {j : Nat} (h : j < m.length) (hp : p (m.getD j 0) = true) : ((m.take j).filter p).length < (m.filter p).length ∧ m.getD j 0 = (m.filter p).getD ((m.take j).filter p).length 0 := by
  have e : m.filter p = (m.take j).filter p ++ (m.getD j 0 :: (m.drop (j + 1)).filter p) := by
    have e1 : m = m.take (j + 1) ++ m.drop (j + 1) := (List.take_append_drop ..).symm
    have e2 : m.filter p = (m.take (j + 1) ++ m.drop (j + 1)).filter p := by rw [← e1]
    rw [e2, List.filter_append, filter_take h, if_pos hp, List.append_assoc]
    rfl
  rw [e]
  constructor
  · simp
  · conv => rhs; rw [List.getD_eq_getElem?_getD, List.getElem?_append_right (Nat.le_refl _), Nat.sub_self]
    rfl
def encCV (x : Int × Value) : Array Value := #[.int .u16 x.1, x.2]
def NxC (n : Nat) (pre : List (Int × Value)) (x : Int × Value) : Prop := (0 ≤ x.1 ∧ x.1 < 65536) ∧ pre.length < n
def FinC (s : List Am) (pre : List (Int × Value)) : Prop := pre.map (·.1) = cartsQ s
set_option maxRecDepth 100000 in
set_option maxHeartbeats 8000000 in
theorem each_seqY (gm B0 b n : Nat) (s : List Am) (hs : OkR s) (N : World → Prop) (hn : n ≤ 600) (hl : s.length ≤ 600) (hN : ∀ V, N V → Blk V gm 70 [.map (some b)] ∧ Grps V B0 b n (fun x : Am => x.k.c) s) : SeqGen 36 #[.pointer (some ⟨gm, 0, none⟩)] N encCV (NxC n) (FinC s) := by
  intro l J X W hJb hJo hJn hXo hY hN0 h0
  have JN : Hid (∀ B pre V, J B pre V → Blk V gm 70 [.map (some b)] ∧ Grps V B0 b n (fun x : Am => x.k.c) s) := Lib.hid (fun B pre V h => hN V (hJn B pre V h))
  have NW := Lib.hid (show Blk W gm 70 [.map (some b)] ∧ Grps W B0 b n (fun x : Am => x.k.c) s from hN W hN0)
  have c0 := NW.out.1.cell (i := 0) rfl
  obtain ⟨f, hf, hgf⟩ := NW.out.2.ex
  have FG := Lib.hid hgf
  have FM := Lib.hid hf
  have JB := Lib.hid hJb
  have HY := Lib.hid hY
  have H0 := Lib.hid h0
  have HS := Lib.hid hs
  have hz := zeroW
  clear hJb hJo hJn hXo hY hN0 h0 hN hgf hf hs
  refine (callsIn_wide (n := 10)).1 ?_
  refine callsIn_of_wp Tryz.func36 rfl trivial ?_ rfl
  simp only [Tryz.ntmps36, List.size_toArray, List.length_cons, List.length_nil, Nat.reduceAdd, Nat.reduceSub, Array.replicate_succ, Array.replicate_zero, List.push_toArray, List.append_toArray, List.nil_append, List.cons_append]
  gi_wp2_with fail
  refine ⟨trivial, (callsIn_wide.2 (keysf_is b _)).mono ?_⟩
  rintro e w2 ⟨g2, rfl, k2, b2⟩
  have K2 := Lib.hid k2
  have B2 := Lib.hid b2
  clear k2 b2
  gi_wp2_with fail
  refine ⟨trivial, (callsIn_wide.2 (sorted16_is 61 #[.pointer (some ⟨g2, 0, none⟩)] (fun V => Blk V g2 70 [.map (some b)] ∧ V.heap[b]? = W.heap[b]?) (NxG f n) (FinG f n) n _ (fun _ _ => rfl) (keys_seq g2 b n f W FM.out) (fun V hb => ⟨K2.out.below hb, (hb.block b (Nat.lt_of_lt_of_le FM.out.lt B2.out.size)).trans (B2.out.block b FM.out.lt)⟩) (by omega) (fun pre x h => ⟨h.1, h.2.2⟩))).mono ?_⟩
  rintro e W1 ⟨⟨v, m, rfl, ⟨s', hfin, hperm, hsd⟩, o3⟩, b3⟩
  obtain ⟨A, cap, rfl⟩ := o3.shape
  have B1 := Lib.hid (step_ B2.out b3)
  have KC := Lib.hid (keys_carts HS.out FM.out FG.out hfin hperm hsd)
  have O1 := Lib.hid (o3.down (C := W.heap.size) B2.out.size)
  have J6 : m.length ≤ 600 := Nat.le_trans KC.out.2.2 hn
  have J0 := Lib.hid (H0.out _ W1 B1.out.size (Nat.le_refl _) B1.out)
  have BB := Lib.hid B1.out.size
  clear o3 b3 hfin hperm hsd
  gi_wp2_with fail
  gi_loopw [10] (fun i wr => ∃ j : Nat, j ≤ m.length ∧ i = .int .i64 (j : Int) ∧ (∃ pre : List (Int × Value), pre.map (·.1) = (m.take j).filter (fullQ s) ∧ J W1.heap.size pre wr) ∧ (∀ k, W.heap.size ≤ k → k < W1.heap.size → wr.heap[k]? = W1.heap[k]?) ∧ W1.heap.size ≤ wr.heap.size) (fun i _ => m.length - (intOf i).toNat)
  case atStart => exact ⟨0, Nat.zero_le _, rfl, ⟨[], rfl, J0.out⟩, fun _ _ _ => rfl, Nat.le_refl _⟩
  case round =>
    obtain ⟨j, hj, rfl, ⟨pre, hpre, hJ⟩, hseg, hsz⟩ := hrel
    have JJ := Lib.hid hJ
    have SG := Lib.hid hseg
    have SZ := Lib.hid hsz
    have PM := Lib.hid hpre
    have PL := Lib.hid (show pre.length = ((m.take j).filter (fullQ s)).length by rw [← hpre, List.length_map])
    clear hJ hseg hsz hpre
    by_cases hlt : j < m.length
    · obtain ⟨G, p, hE, hc, hG⟩ := (O1.out.seg SG.out).at_.elem j hlt
      have FT := Lib.hid (filter_take (p := fullQ s) hlt)
      have FN := Lib.hid (fun h => filter_next (p := fullQ s) (j := j) hlt h)
      have CO := Lib.hid (KC.out.2.1 (m.getD j 0) (by rw [List.getD_eq_getElem?_getD, List.getElem?_eq_getElem hlt]; exact List.getElem_mem _))
      obtain ⟨c, ec⟩ : ∃ c, m.getD j 0 = c := ⟨_, rfl⟩
      rw [ec] at hc FT FN CO
      have E := Lib.hid hE
      have C := Lib.hid hc
      have NN := Lib.hid (JN.out _ _ _ JJ.out)
      have c1 := NN.out.1.cell (i := 0) rfl
      have LTJ := Lib.hid hlt
      clear hE hc hG ec
      gi_wp2_with (first
        | (refine in_skip wide_no rfl ?_)
        | (refine in_plain wide_no rfl (by intro c h; cases h) ?_; refine wpList_val rfl _ (exec_lt _ _ rfl (j : Int) (m.length : Int) true rfl rfl (decide_eq_true (by omega))) ?_; refine in_done ?_)
        | (refine in_plain wide_no rfl (by intro c h; cases h) ?_; refine wpList_indexN Tryz.underlying34 rfl _ _ rfl A m.length cap G p j _ rfl rfl (by first | rfl | omega) E.out ?_; refine in_done ?_)
        | (refine in_plain wide_no rfl (by intro c h; cases h) ?_; refine wpList_val rfl _ (exec_load_i Tryz.underlying23 _ rfl G p c rfl C.out) ?_; refine in_done ?_)
        | (refine in_plain wide_no rfl (by intro c h; cases h) ?_; refine wpList_lookR rfl _ _ rfl B0 b n (fun x : Am => x.k.c) s c rfl rfl NN.out.2 CO.out ?_; intro A4 n4 cap4 R4; have L4 := Lib.hid (show n4 ≤ 600 by have h1 := R4.out.len; have h2 := onK_len (fun x : Am => x.k.c) c s; omega); refine in_done ?_))
      obtain ⟨t, ht⟩ : ∃ t, noteT s c = t := ⟨_, rfl⟩
      have TE := Lib.hid ht
      have NT := Lib.hid (show noteT (onC c s) c = t by rw [note_onC HS.out]; exact ht)
      have TL := Lib.hid (show t.length = 8 by rw [← ht]; exact (noteV_ok HS.out c).tl)
      clear ht
      refine ⟨trivial, (callsIn_wide.2 (of_is_ A4 n4 cap4 (onC c s) c t _ R4.out L4.out CO.out NT)).mono ?_⟩
      rintro e w5 ⟨⟨D, nn, cp, rfl, oV⟩, bV⟩
      rw [lines_onC HS.out] at oV
      obtain ⟨A5, n5, cp5, e5, rV⟩ := oV.rowG LL
      injection e5 with e51 e52 e53
      subst e51 e52 e53
      have RV := Lib.hid rV
      have BV := Lib.hid bV
      have Z5 := Lib.hid (blk_alloc w5 41 (vcs none 0 0 M.zero8))
      obtain ⟨bb, hbb⟩ : ∃ bb, fullQ s c = bb := ⟨_, rfl⟩
      have FB := Lib.hid hbb
      have SB := Lib.hid (show (decide (0 < nn) || !(t == M.zero8)) = bb by rw [← hbb, ← rV.len, ← TE.out]; rfl)
      clear oV rV bV hbb
      gi_wp2_with (first
        | (refine in_plain wide_no rfl (by intro c h; cases h) ?_; refine wpList_store_cs rfl 41 _ _ rfl w5.heap.size (vcs none 0 0 M.zero8) (vcs D nn cp t) rfl rfl Z5.out (by rw [vcs_len rfl, vcs_len TL.out]) (size_w TL.out) (vcs_one D nn cp t) ?_; intro w6 N6 O6; have B6 := Lib.hid (box_below O6.out); refine in_done ?_)
        | (refine in_plain wide_no rfl (by intro c h; cases h) ?_; refine wpList_load_vw rfl _ rfl w5.heap.size D nn cp t rfl N6.out TL.out ?_; refine in_done ?_))
      refine ⟨trivial, (callsIn_wide.2 (some_is_ D nn cp t bb _ TL.out SB)).mono ?_⟩
      rintro e w7 ⟨rfl, b7⟩
      have N7 := Lib.hid (N6.out.below b7)
      have B7 := Lib.hid (step_ BV.out (step_ B6.out b7))
      have JA := Lib.hid (JB.out _ _ _ _ JJ.out B7.out)
      have SA := Lib.hid (show ∀ k, W.heap.size ≤ k → k < W1.heap.size → w7.heap[k]? = W1.heap[k]? from fun k h1 h2 => (B7.out.block k (Nat.lt_of_lt_of_le h2 SZ.out)).trans (SG.out k h1 h2))
      have ZA := Lib.hid (Nat.le_trans SZ.out B7.out.size)
      have R7 := Lib.hid (RV.out.below (step_ B6.out b7))
      clear b7
      cases bb with
      | false =>
        rw [FB.out, if_neg (by decide), List.append_nil] at FT
        gi_wp2_with (first
          | (refine in_skip wide_no rfl ?_))
        go_roundw
        case rel => exact ⟨j + 1, by have := LTJ.out; omega, by go_num, ⟨pre, by rw [FT.out]; exact PM.out, JA.out⟩, SA.out, ZA.out⟩
        case measure => have := LTJ.out; simp [intOf]; omega
      | true =>
        rw [FB.out, if_pos rfl] at FT
        obtain ⟨fn, tmps, assign, body, hy, hR⟩ := yield_any (HY.out _ pre (c, .agg (vcs D nn cp t).toArray) w7 ⟨CO.out, by have h1 := PL.out; have h2 := List.length_filter_le (fullQ s) (m.take j); have h3 := List.length_take_le j m; have h4 := LTJ.out; have h5 := KC.out.2.2; omega⟩ JA.out BB.out ZA.out) 9 none
        change (Instr.yield l #[.int .u16 c, .agg (vcs D nn cp t).toArray]).run Tryz.prog w7 = _ at hy
        gi_wp2_with (first
          | (refine in_want rfl ?_; refine in_plain wide_no rfl (by intro c h; cases h) ?_; refine wpList_load_vw rfl _ rfl w5.heap.size D nn cp t rfl N7.out TL.out ?_; refine in_done ?_))
        refine hR.mono ?_
        rintro e W3 ⟨hs3, hk3, (⟨rfl, hJ3⟩ | ⟨rfl, hX3⟩)⟩
        · have J3 := Lib.hid hJ3
          have S3 := Lib.hid (show ∀ k, W.heap.size ≤ k → k < W1.heap.size → W3.heap[k]? = W1.heap[k]? from fun k h1 h2 => (hk3 k h1 h2).trans (SA.out k h1 h2))
          have Z3 := Lib.hid (Nat.le_trans ZA.out hs3)
          clear hJ3 hR hy hk3 hs3
          gi_wp2_with fail
          go_roundw
          case rel => exact ⟨j + 1, by have := LTJ.out; omega, by go_num, ⟨pre ++ [(c, .agg (vcs D nn cp t).toArray)], by rw [List.map_append, PM.out, FT.out]; rfl, J3.out⟩, S3.out, Z3.out⟩
          case measure => have := LTJ.out; simp [intOf]; omega
        · have X3 := Lib.hid hX3
          clear hX3 hR hy hk3 hs3
          gi_wp2_with fail
          refine bodyPost_ret (results_none rfl _ _ _) rfl ?_
          exact ⟨⟨_, rfl⟩, .inr X3.out⟩
    · obtain rfl : j = m.length := by omega
      have HT := Lib.hid (show m.take m.length = m from List.take_length ..)
      gi_wp2_with fail
      refine bodyPost_end (results_none rfl _ _ _) rfl ?_
      refine ⟨⟨_, rfl⟩, .inl ?_⟩
      rw [HT.out, KC.out.1] at PM
      exact ⟨pre, _, PM.out, JJ.out⟩
end Go.Proofs.YtijfbhdbfplghaaGreat
