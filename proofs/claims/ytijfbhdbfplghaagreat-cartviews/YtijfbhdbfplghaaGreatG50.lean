/- Each of package cart and its iterator: called by a range over it, and by the closure of a law. Written by wip/tools/ceach_r17.py. Each of package cart, and Carts: the carts that have a line or a text, increasing. The contract of Join of the reference: rows of atoms. -/
import Derived.Test.YtijfbhdbfplghaaGreatG40
import Derived.Test.YtijfbhdbfplghaaGreatG43
import Derived.Test.YtijfbhdbfplghaaGreatG49
import Derived.Test.YtijfbhdbfplghaaGreatG22
namespace Go.Proofs.YtijfbhdbfplghaaGreat
open Go.RowKit Go.Shelf Go.Maps
attribute [local go_sem] Oper.semAt_some
section
variable {K : Type} [DecidableEq K] [Inhabited (MKd K)] {ops : Array Oper} {rest : List Oper} {op : Oper} {a : Act} {w : World} {Q : Exit → Act → World → Prop}
theorem wpList_lookR (hgd : op.guard = none) (x y : Operand) (ho : op.op = .lookup (MK.mt K) x y false) (B b n : Nat) (ky : Am → K) (s : List Am) (k : K) (hx : a.eval x = .map (some b)) (hy : a.eval y = MK.kv k) (hm : Grps w B b n ky s) (hk : MK.ok k)
    (h : ∀ A m cap, Hid (RowV w A m cap (onK ky k s)) → wpList Tryz.prog ops Q rest (a.put op.dst (.slice A m cap)) w) : wpList Tryz.prog ops Q (op :: rest) a w := by
  refine wpList_plain hgd fun K' hK => ?_
  obtain ⟨v, hr, h1⟩ := hm.at_ hk
  obtain ⟨A, m, cap, rfl, h2⟩ := h1
  unfold Oper.wp execOp
  simp only [ho, hx, hy, Sem.run_bind, hr, Result.andThen_ok, Sem.run_pure]
  exact hK _ _ (h A m cap (Lib.hid h2))
end
theorem wpList_load_vw {ops : Array Oper} {rest : List Oper} {op : Oper} {a : Act} {w : World} {Q : Exit → Act → World → Prop} (hgd : op.guard = none) (x : Operand) (ho : op.op = .load 41 x) (g : Nat) (D : Option Addr) (n cp : Nat) (t : List Int)
    (hx : a.eval x = .pointer (some ⟨g, 0, none⟩)) (hr : Blk w g 41 (vcs D n cp t)) (hm : t.length = 8) (h : wpList Tryz.prog ops Q rest (a.put op.dst (.agg (vcs D n cp t).toArray)) w) : wpList Tryz.prog ops Q (op :: rest) a w :=
  wpList_load_mid hgd 41 x ho g 0 hx (vcs D n cp t) _ hr.range undW rfl (size_w hm) h
theorem OwnN.seg {w w' : World} {B : Nat} {v : Value} {l : List Int} (h : OwnN w B v l) (he : ∀ k, B ≤ k → k < w.heap.size → w'.heap[k]? = w.heap[k]?) : OwnN w' B v l := by
  have h2 := h.row
  refine ⟨h.ok, h2.1, ?_⟩
  rcases h2.2 with h0 | ⟨g, cap, cur, rfl, hb, hg, hn⟩
  · exact .inl h0
  · exact .inr ⟨g, cap, cur, rfl, hb, (he g hb (Array.getElem?_eq_some_iff.1 hg).1).trans hg, hn⟩
set_option maxRecDepth 100000 in
theorem keysf_is (b : Nat) (w : World) : Calls Tryz.prog 38 #[.map (some b)] w fun e w' => ∃ g, e = .returned (.func (.func 61) #[] #[.pointer (some ⟨g, 0, none⟩)]) ∧ Blk w' g 70 [.map (some b)] ∧ Below w.heap.size w w' := by
  have K0 := Lib.hid (blk_alloc w 70 [.map (some b)])
  have B0 := Lib.hid (new_below w (.cells #[.map (some b)] 70))
  go_enter Tryz.func38, Tryz.ntmps38
  go_wp2_with fail
  go_ret
  exact ⟨_, rfl, K0.out, B0.out⟩
theorem sd_pairwise {l : List Int} (h : Sd l 0 l.length) : l.Pairwise (· ≤ ·) := by
  rw [List.pairwise_iff_getElem]
  intro i j hi hj hij
  have := h i j (Nat.zero_le _) hij hj
  rwa [List.getD_eq_getElem?_getD, List.getD_eq_getElem?_getD, List.getElem?_eq_getElem hi, List.getElem?_eq_getElem hj] at this
/-- The sorted keys of the groups, cut to the carts that are read full, are the carts. -/
theorem keys_carts {w : World} {B b n : Nat} {s : List Am} {f : Int → Option Value} (hs : OkR s) (hf : MapG w b n f) (hg : GrpF w B f (fun x : Am => x.k.c) s fun _ => True) {m s' : List Int} (h1 : FinG f n s') (hp : m.Perm s') (hd : Sd m 0 m.length) :
    m.filter (fullQ s) = cartsQ s ∧ (∀ c ∈ m, 0 ≤ c ∧ c < 65536) ∧ m.length ≤ n := by
  have hm : ∀ c, c ∈ m ↔ f c ≠ none := fun c => by rw [hp.mem_iff]; exact h1.2.1 c
  refine ⟨carts_cut hs (sorted_inc (sd_pairwise hd) (hp.nodup_iff.2 h1.1)) fun c => ?_, fun c hc => ?_, by rw [hp.length_eq]; exact h1.2.2⟩
  · rw [hm]
    constructor
    · intro h
      cases e : f c with
      | none => exact absurd e h
      | some v => exact (hg.row c v trivial e).2
    · rintro ⟨x, hx, e⟩ h
      exact hg.no c trivial h x hx e
  · cases e : f c with
    | none => exact absurd e ((hm c).1 hc)
    | some v => exact hf.ok c v e
theorem filter_take {m : List Int} {p : Int → Bool} {j : Nat} (h : j < m.length) : (m.take (j + 1)).filter p = (m.take j).filter p ++ if p (m.getD j 0) = true then [m.getD j 0] else [] := by
  rw [List.take_succ_eq_append_getElem h, List.filter_append, List.getD_eq_getElem?_getD, List.getElem?_eq_getElem h]
  congr 1
  rw [Option.getD_some]
  by_cases e : p m[j] = true
  · rw [if_pos e, List.filter_cons_of_pos e]; rfl
  · rw [if_neg e, List.filter_cons_of_neg e]; rfl
theorem filter_next {m : List Int} {p : Int → Bool} {j : Nat} (h : j < m.length) (hp : p (m.getD j 0) = true) : ((m.take j).filter p).length < (m.filter p).length ∧ m.getD j 0 = (m.filter p).getD ((m.take j).filter p).length 0 := by
  have e : m.filter p = (m.take j).filter p ++ (m.getD j 0 :: (m.drop (j + 1)).filter p) := by
    have e1 : m = m.take (j + 1) ++ m.drop (j + 1) := (List.take_append_drop ..).symm
    have e2 : m.filter p = (m.take (j + 1) ++ m.drop (j + 1)).filter p := by rw [← e1]
    rw [e2, List.filter_append, filter_take h, if_pos hp, List.append_assoc]
    rfl
  rw [e]
  constructor
  · simp
  · conv => rhs; rw [List.getD_eq_getElem?_getD, List.getElem?_append_right (Nat.le_refl _), Nat.sub_self]
    rfl
def encCV (x : Int × Value) : Array Value := #[.int .u16 x.1, x.2]
def NxC (n : Nat) (pre : List (Int × Value)) (x : Int × Value) : Prop := (0 ≤ x.1 ∧ x.1 < 65536) ∧ pre.length < n
def FinC (s : List Am) (pre : List (Int × Value)) : Prop := pre.map (·.1) = cartsQ s
set_option maxRecDepth 100000 in
set_option maxHeartbeats 8000000 in
theorem each_seqY (gm B0 b n : Nat) (s : List Am) (hs : OkR s) (N : World → Prop) (hn : n ≤ 600) (hl : s.length ≤ 600) (hN : ∀ V, N V → Blk V gm 70 [.map (some b)] ∧ Grps V B0 b n (fun x : Am => x.k.c) s) : SeqGen 36 #[.pointer (some ⟨gm, 0, none⟩)] N encCV (NxC n) (FinC s) := by
  intro l J X W hJb hJo hJn hXo hY hN0 h0
  have JN : Hid (∀ B pre V, J B pre V → Blk V gm 70 [.map (some b)] ∧ Grps V B0 b n (fun x : Am => x.k.c) s) := Lib.hid (fun B pre V h => hN V (hJn B pre V h))
  have NW := Lib.hid (show Blk W gm 70 [.map (some b)] ∧ Grps W B0 b n (fun x : Am => x.k.c) s from hN W hN0)
  have c0 := NW.out.1.cell (i := 0) rfl
  obtain ⟨f, hf, hgf⟩ := NW.out.2.ex
  have FG := Lib.hid hgf
  have FM := Lib.hid hf
  have JB := Lib.hid hJb
  have HY := Lib.hid hY
  have H0 := Lib.hid h0
  have HS := Lib.hid hs
  have hz := zeroW
  clear hJb hJo hJn hXo hY hN0 h0 hN hgf hf hs
  refine (callsIn_wide (n := 10)).1 ?_
  refine callsIn_of_wp Tryz.func36 rfl trivial ?_ rfl
  simp only [Tryz.ntmps36, List.size_toArray, List.length_cons, List.length_nil, Nat.reduceAdd, Nat.reduceSub, Array.replicate_succ, Array.replicate_zero, List.push_toArray, List.append_toArray, List.nil_append, List.cons_append]
  gi_wp2_with fail
  refine ⟨trivial, (callsIn_wide.2 (keysf_is b _)).mono ?_⟩
  rintro e w2 ⟨g2, rfl, k2, b2⟩
  have K2 := Lib.hid k2
  have B2 := Lib.hid b2
  clear k2 b2
  gi_wp2_with fail
  refine ⟨trivial, (callsIn_wide.2 (sorted16_is 61 #[.pointer (some ⟨g2, 0, none⟩)] (fun V => Blk V g2 70 [.map (some b)] ∧ V.heap[b]? = W.heap[b]?) (NxG f n) (FinG f n) n _ (fun _ _ => rfl) (keys_seq g2 b n f W FM.out) (fun V hb => ⟨K2.out.below hb, (hb.block b (Nat.lt_of_lt_of_le FM.out.lt B2.out.size)).trans (B2.out.block b FM.out.lt)⟩) (by omega) (fun pre x h => ⟨h.1, h.2.2⟩))).mono ?_⟩
  rintro e W1 ⟨⟨v, m, rfl, ⟨s', hfin, hperm, hsd⟩, o3⟩, b3⟩
  obtain ⟨A, cap, rfl⟩ := o3.shape
  have B1 := Lib.hid (step_ B2.out b3)
  have KC := Lib.hid (keys_carts HS.out FM.out FG.out hfin hperm hsd)
  have O1 := Lib.hid (o3.down (C := W.heap.size) B2.out.size)
  have J6 : m.length ≤ 600 := Nat.le_trans KC.out.2.2 hn
  have J0 := Lib.hid (H0.out _ W1 B1.out.size (Nat.le_refl _) B1.out)
  have BB := Lib.hid B1.out.size
  clear o3 b3 hfin hperm hsd
  gi_wp2_with fail
  gi_loopw [10] (fun i wr => ∃ j : Nat, j ≤ m.length ∧ i = .int .i64 (j : Int) ∧ (∃ pre : List (Int × Value), pre.map (·.1) = (m.take j).filter (fullQ s) ∧ J W1.heap.size pre wr) ∧ (∀ k, W.heap.size ≤ k → k < W1.heap.size → wr.heap[k]? = W1.heap[k]?) ∧ W1.heap.size ≤ wr.heap.size) (fun i _ => m.length - (intOf i).toNat)
  case atStart => exact ⟨0, Nat.zero_le _, rfl, ⟨[], rfl, J0.out⟩, fun _ _ _ => rfl, Nat.le_refl _⟩
  case round =>
    obtain ⟨j, hj, rfl, ⟨pre, hpre, hJ⟩, hseg, hsz⟩ := hrel
    have JJ := Lib.hid hJ
    have SG := Lib.hid hseg
    have SZ := Lib.hid hsz
    have PM := Lib.hid hpre
    have PL := Lib.hid (show pre.length = ((m.take j).filter (fullQ s)).length by rw [← hpre, List.length_map])
    clear hJ hseg hsz hpre
    by_cases hlt : j < m.length
    · obtain ⟨G, p, hE, hc, hG⟩ := (O1.out.seg SG.out).at_.elem j hlt
      have FT := Lib.hid (filter_take (p := fullQ s) hlt)
      have FN := Lib.hid (fun h => filter_next (p := fullQ s) (j := j) hlt h)
      have CO := Lib.hid (KC.out.2.1 (m.getD j 0) (by rw [List.getD_eq_getElem?_getD, List.getElem?_eq_getElem hlt]; exact List.getElem_mem _))
      obtain ⟨c, ec⟩ : ∃ c, m.getD j 0 = c := ⟨_, rfl⟩
      rw [ec] at hc FT FN CO
      have E := Lib.hid hE
      have C := Lib.hid hc
      have NN := Lib.hid (JN.out _ _ _ JJ.out)
      have c1 := NN.out.1.cell (i := 0) rfl
      have LTJ := Lib.hid hlt
      clear hE hc hG ec
      gi_wp2_with (first
        | (refine in_skip wide_no rfl ?_)
        | (refine in_plain wide_no rfl (by intro c h; cases h) ?_; refine wpList_val rfl _ (exec_lt _ _ rfl (j : Int) (m.length : Int) true rfl rfl (decide_eq_true (by omega))) ?_; refine in_done ?_)
        | (refine in_plain wide_no rfl (by intro c h; cases h) ?_; refine wpList_indexN Tryz.underlying34 rfl _ _ rfl A m.length cap G p j _ rfl rfl (by first | rfl | omega) E.out ?_; refine in_done ?_)
        | (refine in_plain wide_no rfl (by intro c h; cases h) ?_; refine wpList_val rfl _ (exec_load_i Tryz.underlying23 _ rfl G p c rfl C.out) ?_; refine in_done ?_)
        | (refine in_plain wide_no rfl (by intro c h; cases h) ?_; refine wpList_lookR rfl _ _ rfl B0 b n (fun x : Am => x.k.c) s c rfl rfl NN.out.2 CO.out ?_; intro A4 n4 cap4 R4; have L4 := Lib.hid (show n4 ≤ 600 by have h1 := R4.out.len; have h2 := onK_len (fun x : Am => x.k.c) c s; omega); refine in_done ?_))
      obtain ⟨t, ht⟩ : ∃ t, noteT s c = t := ⟨_, rfl⟩
      have TE := Lib.hid ht
      have NT := Lib.hid (show noteT (onC c s) c = t by rw [note_onC HS.out]; exact ht)
      have TL := Lib.hid (show t.length = 8 by rw [← ht]; exact (noteV_ok HS.out c).tl)
      clear ht
      refine ⟨trivial, (callsIn_wide.2 (of_is_ A4 n4 cap4 (onC c s) c t _ R4.out L4.out CO.out NT)).mono ?_⟩
      rintro e w5 ⟨⟨D, nn, cp, rfl, oV⟩, bV⟩
      rw [lines_onC HS.out] at oV
      obtain ⟨A5, n5, cp5, e5, rV⟩ := oV.rowG LL
      injection e5 with e51 e52 e53
      subst e51 e52 e53
      have RV := Lib.hid rV
      have BV := Lib.hid bV
      have Z5 := Lib.hid (blk_alloc w5 41 (vcs none 0 0 M.zero8))
      obtain ⟨bb, hbb⟩ : ∃ bb, fullQ s c = bb := ⟨_, rfl⟩
      have FB := Lib.hid hbb
      have SB := Lib.hid (show (decide (0 < nn) || !(t == M.zero8)) = bb by rw [← hbb, ← rV.len, ← TE.out]; rfl)
      clear oV rV bV hbb
      gi_wp2_with (first
        | (refine in_plain wide_no rfl (by intro c h; cases h) ?_; refine wpList_store_cs rfl 41 _ _ rfl w5.heap.size (vcs none 0 0 M.zero8) (vcs D nn cp t) rfl rfl Z5.out (by rw [vcs_len rfl, vcs_len TL.out]) (size_w TL.out) (vcs_one D nn cp t) ?_; intro w6 N6 O6; have B6 := Lib.hid (box_below O6.out); refine in_done ?_)
        | (refine in_plain wide_no rfl (by intro c h; cases h) ?_; refine wpList_load_vw rfl _ rfl w5.heap.size D nn cp t rfl N6.out TL.out ?_; refine in_done ?_))
      refine ⟨trivial, (callsIn_wide.2 (some_is_ D nn cp t bb _ TL.out SB)).mono ?_⟩
      rintro e w7 ⟨rfl, b7⟩
      have N7 := Lib.hid (N6.out.below b7)
      have B7 := Lib.hid (step_ BV.out (step_ B6.out b7))
      have JA := Lib.hid (JB.out _ _ _ _ JJ.out B7.out)
      have SA := Lib.hid (show ∀ k, W.heap.size ≤ k → k < W1.heap.size → w7.heap[k]? = W1.heap[k]? from fun k h1 h2 => (B7.out.block k (Nat.lt_of_lt_of_le h2 SZ.out)).trans (SG.out k h1 h2))
      have ZA := Lib.hid (Nat.le_trans SZ.out B7.out.size)
      have R7 := Lib.hid (RV.out.below (step_ B6.out b7))
      clear b7
      cases bb with
      | false =>
        rw [FB.out, if_neg (by decide), List.append_nil] at FT
        gi_wp2_with (first
          | (refine in_skip wide_no rfl ?_))
        go_roundw
        case rel => exact ⟨j + 1, by have := LTJ.out; omega, by go_num, ⟨pre, by rw [FT.out]; exact PM.out, JA.out⟩, SA.out, ZA.out⟩
        case measure => have := LTJ.out; simp [intOf]; omega
      | true =>
        rw [FB.out, if_pos rfl] at FT
        obtain ⟨fn, tmps, assign, body, hy, hR⟩ := yield_any (HY.out _ pre (c, .agg (vcs D nn cp t).toArray) w7 ⟨CO.out, by have h1 := PL.out; have h2 := List.length_filter_le (fullQ s) (m.take j); have h3 := List.length_take_le j m; have h4 := LTJ.out; have h5 := KC.out.2.2; omega⟩ JA.out BB.out ZA.out) 9 none
        change (Instr.yield l #[.int .u16 c, .agg (vcs D nn cp t).toArray]).run Tryz.prog w7 = _ at hy
        gi_wp2_with (first
          | (refine in_want rfl ?_; refine in_plain wide_no rfl (by intro c h; cases h) ?_; refine wpList_load_vw rfl _ rfl w5.heap.size D nn cp t rfl N7.out TL.out ?_; refine in_done ?_))
        refine hR.mono ?_
        rintro e W3 ⟨hs3, hk3, (⟨rfl, hJ3⟩ | ⟨rfl, hX3⟩)⟩
        · have J3 := Lib.hid hJ3
          have S3 := Lib.hid (show ∀ k, W.heap.size ≤ k → k < W1.heap.size → W3.heap[k]? = W1.heap[k]? from fun k h1 h2 => (hk3 k h1 h2).trans (SA.out k h1 h2))
          have Z3 := Lib.hid (Nat.le_trans ZA.out hs3)
          clear hJ3 hR hy hk3 hs3
          gi_wp2_with fail
          go_roundw
          case rel => exact ⟨j + 1, by have := LTJ.out; omega, by go_num, ⟨pre ++ [(c, .agg (vcs D nn cp t).toArray)], by rw [List.map_append, PM.out, FT.out]; rfl, J3.out⟩, S3.out, Z3.out⟩
          case measure => have := LTJ.out; simp [intOf]; omega
        · have X3 := Lib.hid hX3
          clear hX3 hR hy hk3 hs3
          gi_wp2_with fail
          refine bodyPost_ret (results_none rfl _ _ _) rfl ?_
          exact ⟨⟨_, rfl⟩, .inr X3.out⟩
    · obtain rfl : j = m.length := by omega
      have HT := Lib.hid (show m.take m.length = m from List.take_length ..)
      gi_wp2_with fail
      refine bodyPost_end (results_none rfl _ _ _) rfl ?_
      refine ⟨⟨_, rfl⟩, .inl ?_⟩
      rw [HT.out, KC.out.1] at PM
      exact ⟨pre, _, PM.out, JJ.out⟩
set_option maxRecDepth 100000 in
set_option maxHeartbeats 8000000 in
theorem each_callC (lb : List Value) (gm B0 b n : Nat) (s : List Am) (hs : OkR s) (hn : n ≤ 600) (hl : s.length ≤ 600) (J : Nat → List Int → World → Prop) (X : World → Prop) (W : World)
    (hJb : ∀ B pre V V', J B pre V → Below V.heap.size V V' → J B pre V') (hJn : ∀ B pre V, J B pre V → Blk V gm 70 [.map (some b)] ∧ Grps V B0 b n (fun x : Am => x.k.c) s)
    (hY : ∀ B pre c D nn cp V, pre.length < (cartsQ s).length → c = (cartsQ s).getD pre.length 0 → J B pre V → RowG EL V D nn cp (linesQ s c) → W.heap.size ≤ B → B ≤ V.heap.size →
      Calls Tryz.prog 18 (.int .u16 c :: .agg (vcs D nn cp (noteT s c)).toArray :: lb).toArray V fun e V' => V.heap.size ≤ V'.heap.size ∧ (∀ k, W.heap.size ≤ k → k < B → V'.heap[k]? = V.heap[k]?) ∧ ((e = .returned (.bool true) ∧ J B (pre ++ [c]) V') ∨ (e = .returned (.bool false) ∧ X V')))
    (hN0 : Blk W gm 70 [.map (some b)] ∧ Grps W B0 b n (fun x : Am => x.k.c) s) (h0 : ∀ B V, W.heap.size ≤ B → B ≤ V.heap.size → Below W.heap.size W V → J B [] V) :
    Calls Tryz.prog 36 #[.func (.func 18) #[] lb.toArray, .pointer (some ⟨gm, 0, none⟩)] W fun e V' => (∃ v, e = .returned v) ∧ ((∃ B, J B (cartsQ s) V') ∨ X V') := by
  have JN := Lib.hid hJn
  have NW := Lib.hid hN0
  have c0 := NW.out.1.cell (i := 0) rfl
  obtain ⟨f, hf, hgf⟩ := NW.out.2.ex
  have FG := Lib.hid hgf
  have FM := Lib.hid hf
  have JB := Lib.hid hJb
  have HY := Lib.hid hY
  have H0 := Lib.hid h0
  have HS := Lib.hid hs
  have hz := zeroW
  clear hJb hJn hY hN0 h0 hgf hf hs
  go_enter Tryz.func36, Tryz.ntmps36
  go_wp2_with fail
  refine (keysf_is b _).mono ?_
  rintro e w2 ⟨g2, rfl, k2, b2⟩
  have K2 := Lib.hid k2
  have B2 := Lib.hid b2
  clear k2 b2
  go_wp2_with fail
  refine (sorted16_is 61 #[.pointer (some ⟨g2, 0, none⟩)] (fun V => Blk V g2 70 [.map (some b)] ∧ V.heap[b]? = W.heap[b]?) (NxG f n) (FinG f n) n _ (fun _ _ => rfl) (keys_seq g2 b n f W FM.out) (fun V hb => ⟨K2.out.below hb, (hb.block b (Nat.lt_of_lt_of_le FM.out.lt B2.out.size)).trans (B2.out.block b FM.out.lt)⟩) (by omega) (fun pre x h => ⟨h.1, h.2.2⟩)).mono ?_
  rintro e W1 ⟨⟨v, m, rfl, ⟨s', hfin, hperm, hsd⟩, o3⟩, b3⟩
  obtain ⟨A, cap, rfl⟩ := o3.shape
  have B1 := Lib.hid (step_ B2.out b3)
  have KC := Lib.hid (keys_carts HS.out FM.out FG.out hfin hperm hsd)
  have O1 := Lib.hid (o3.down (C := W.heap.size) B2.out.size)
  have J6 : m.length ≤ 600 := Nat.le_trans KC.out.2.2 hn
  have J0 := Lib.hid (H0.out _ W1 B1.out.size (Nat.le_refl _) B1.out)
  have BB := Lib.hid B1.out.size
  clear o3 b3 hfin hperm hsd
  go_wp2_with fail
  go_loopw [10] (fun i wr => ∃ j : Nat, j ≤ m.length ∧ i = .int .i64 (j : Int) ∧ (J W1.heap.size ((m.take j).filter (fullQ s)) wr) ∧ (∀ k, W.heap.size ≤ k → k < W1.heap.size → wr.heap[k]? = W1.heap[k]?) ∧ W1.heap.size ≤ wr.heap.size) (fun i _ => m.length - (intOf i).toNat)
  case atStart => exact ⟨0, Nat.zero_le _, rfl, J0.out, fun _ _ _ => rfl, Nat.le_refl _⟩
  case round =>
    obtain ⟨j, hj, rfl, hJ, hseg, hsz⟩ := hrel
    have JJ := Lib.hid hJ
    have SG := Lib.hid hseg
    have SZ := Lib.hid hsz
    obtain ⟨pre, hpre⟩ : ∃ pre, (m.take j).filter (fullQ s) = pre := ⟨_, rfl⟩
    have PM := Lib.hid hpre
    rw [hpre] at JJ
    clear hJ hseg hsz hpre
    by_cases hlt : j < m.length
    · obtain ⟨G, p, hE, hc, hG⟩ := (O1.out.seg SG.out).at_.elem j hlt
      have FT := Lib.hid (filter_take (p := fullQ s) hlt)
      have FN := Lib.hid (fun h => filter_next (p := fullQ s) (j := j) hlt h)
      have CO := Lib.hid (KC.out.2.1 (m.getD j 0) (by rw [List.getD_eq_getElem?_getD, List.getElem?_eq_getElem hlt]; exact List.getElem_mem _))
      obtain ⟨c, ec⟩ : ∃ c, m.getD j 0 = c := ⟨_, rfl⟩
      rw [ec] at hc FT FN CO
      have E := Lib.hid hE
      have C := Lib.hid hc
      have NN := Lib.hid (JN.out _ _ _ JJ.out)
      have c1 := NN.out.1.cell (i := 0) rfl
      have LTJ := Lib.hid hlt
      clear hE hc hG ec
      go_wp2_with (first
        | go_skip
        | (refine wpList_val rfl _ (exec_lt _ _ rfl (j : Int) (m.length : Int) true rfl rfl (decide_eq_true (by omega))) ?_)
        | (refine wpList_indexN Tryz.underlying34 rfl _ _ rfl A m.length cap G p j _ rfl rfl (by first | rfl | omega) E.out ?_)
        | (refine wpList_val rfl _ (exec_load_i Tryz.underlying23 _ rfl G p c rfl C.out) ?_)
        | (refine wpList_lookR rfl _ _ rfl B0 b n (fun x : Am => x.k.c) s c rfl rfl NN.out.2 CO.out ?_; intro A4 n4 cap4 R4; have L4 := Lib.hid (show n4 ≤ 600 by have h1 := R4.out.len; have h2 := onK_len (fun x : Am => x.k.c) c s; omega)))
      obtain ⟨t, ht⟩ : ∃ t, noteT s c = t := ⟨_, rfl⟩
      have TE := Lib.hid ht
      have NT := Lib.hid (show noteT (onC c s) c = t by rw [note_onC HS.out]; exact ht)
      have TL := Lib.hid (show t.length = 8 by rw [← ht]; exact (noteV_ok HS.out c).tl)
      clear ht
      refine (of_is_ A4 n4 cap4 (onC c s) c t _ R4.out L4.out CO.out NT).mono ?_
      rintro e w5 ⟨⟨D, nn, cp, rfl, oV⟩, bV⟩
      rw [lines_onC HS.out] at oV
      obtain ⟨A5, n5, cp5, e5, rV⟩ := oV.rowG LL
      injection e5 with e51 e52 e53
      subst e51 e52 e53
      have RV := Lib.hid rV
      have BV := Lib.hid bV
      have Z5 := Lib.hid (blk_alloc w5 41 (vcs none 0 0 M.zero8))
      obtain ⟨bb, hbb⟩ : ∃ bb, fullQ s c = bb := ⟨_, rfl⟩
      have FB := Lib.hid hbb
      have SB := Lib.hid (show (decide (0 < nn) || !(t == M.zero8)) = bb by rw [← hbb, ← rV.len, ← TE.out]; rfl)
      clear oV rV bV hbb
      go_wp2_with (first
        | (refine wpList_store_cs rfl 41 _ _ rfl w5.heap.size (vcs none 0 0 M.zero8) (vcs D nn cp t) rfl rfl Z5.out (by rw [vcs_len rfl, vcs_len TL.out]) (size_w TL.out) (vcs_one D nn cp t) ?_; intro w6 N6 O6; have B6 := Lib.hid (box_below O6.out))
        | (refine wpList_load_vw rfl _ rfl w5.heap.size D nn cp t rfl N6.out TL.out ?_))
      refine (some_is_ D nn cp t bb _ TL.out SB).mono ?_
      rintro e w7 ⟨rfl, b7⟩
      have N7 := Lib.hid (N6.out.below b7)
      have B7 := Lib.hid (step_ BV.out (step_ B6.out b7))
      have JA := Lib.hid (JB.out _ _ _ _ JJ.out B7.out)
      have SA := Lib.hid (show ∀ k, W.heap.size ≤ k → k < W1.heap.size → w7.heap[k]? = W1.heap[k]? from fun k h1 h2 => (B7.out.block k (Nat.lt_of_lt_of_le h2 SZ.out)).trans (SG.out k h1 h2))
      have ZA := Lib.hid (Nat.le_trans SZ.out B7.out.size)
      have R7 := Lib.hid (RV.out.below (step_ B6.out b7))
      clear b7
      cases bb with
      | false =>
        rw [FB.out, if_neg (by decide), List.append_nil, PM.out] at FT
        go_wp2_with (first
          | go_skip)
        go_roundw
        case rel => exact ⟨j + 1, by have := LTJ.out; omega, by go_num, by rw [FT.out]; exact JA.out, SA.out, ZA.out⟩
        case measure => have := LTJ.out; simp [intOf]; omega
      | true =>
        rw [FB.out, if_pos rfl, PM.out] at FT
        have FN2 := Lib.hid (show pre.length < (cartsQ s).length ∧ c = (cartsQ s).getD pre.length 0 by have h := FN.out FB.out; rw [KC.out.1, PM.out] at h; exact h)
        go_wp2_with (first
          | (refine wanted_on rfl ?_; refine wpList_load_vw rfl _ rfl w5.heap.size D nn cp t rfl N7.out TL.out ?_))
        have HC := HY.out _ pre c D nn cp w7 FN2.out.1 FN2.out.2 JA.out R7.out BB.out ZA.out
        rw [TE.out] at HC
        refine HC.mono ?_
        rintro e W3 ⟨hs3, hk3, (⟨rfl, hJ3⟩ | ⟨rfl, hX3⟩)⟩
        · have J3 := Lib.hid hJ3
          have S3 := Lib.hid (show ∀ k, W.heap.size ≤ k → k < W1.heap.size → W3.heap[k]? = W1.heap[k]? from fun k h1 h2 => (hk3 k h1 h2).trans (SA.out k h1 h2))
          have Z3 := Lib.hid (Nat.le_trans ZA.out hs3)
          clear hJ3 hk3 hs3 HC
          go_wp2_with fail
          go_roundw
          case rel => exact ⟨j + 1, by have := LTJ.out; omega, by go_num, by rw [FT.out]; exact J3.out, S3.out, Z3.out⟩
          case measure => have := LTJ.out; simp [intOf]; omega
        · have X3 := Lib.hid hX3
          clear hX3 hk3 hs3 HC
          go_wp2_with fail
          refine bodyPost_ret (results_none rfl _ _ _) rfl ?_
          exact ⟨⟨_, rfl⟩, .inr X3.out⟩
    · obtain rfl : j = m.length := by omega
      have HT := Lib.hid (show m.take m.length = m from List.take_length ..)
      go_wp2_with fail
      refine bodyPost_end (results_none rfl _ _ _) rfl ?_
      refine ⟨⟨_, rfl⟩, .inl ?_⟩
      rw [HT.out, KC.out.1] at PM
      exact ⟨_, by rw [PM.out]; exact JJ.out⟩
end Go.Proofs.YtijfbhdbfplghaaGreat
namespace Go.Proofs.YtijfbhdbfplghaaGreat
open Go.RowKit Go.Shelf Go.Maps
attribute [local go_sem] Oper.semAt_some
theorem exec_storeM {o : Oper} {a : Act} {w : World} (x y : Operand) (ho : o.op = .store 70 x y) (g : Nat) (u : Value) (b : Nat) (hx : a.eval x = .pointer (some ⟨g, 0, none⟩)) (hy : a.eval y = .map (some b)) (hb : Blk w g 70 [u]) :
    (execOp a.eval o).run Tryz.prog w = .ok .skip (w.setCell ⟨g, 0, none⟩ (.map (some b))) := by
  have hc := hb.cell (i := 0) rfl
  have hf := hb.frozen 0
  unfold execOp
  simp only [ho, hx, hy]
  simp [go_sem, hc, hf]
theorem wpList_storeM {ops : Array Oper} {rest : List Oper} {op : Oper} {a : Act} {w : World} {Q : Exit → Act → World → Prop} (hgd : op.guard = none) (x y : Operand) (ho : op.op = .store 70 x y) (g : Nat) (u : Value) (b : Nat) (hx : a.eval x = .pointer (some ⟨g, 0, none⟩)) (hy : a.eval y = .map (some b)) (hb : Blk w g 70 [u])
    (h : ∀ w', Hid (Blk w' g 70 [.map (some b)]) → Hid (Only g w w') → wpList Tryz.prog ops Q rest (a.put op.dst undef) w') : wpList Tryz.prog ops Q (op :: rest) a w := by
  refine wpList_plain hgd fun K hK => ?_
  unfold Oper.wp
  rw [exec_storeM x y ho g u b hx hy hb]
  exact hK _ _ (h _ (Lib.hid (hb.set 0 (.map (some b)))) (Lib.hid (Only.set g 0 w (.map (some b)))))
set_option maxRecDepth 100000 in
theorem each17_is (A : Option Addr) (n cap : Nat) (a : List Am) (w : World) (h : RowV w A n cap a) (hl : n ≤ 600) : Calls Tryz.prog 17 #[.slice A n cap] w fun e w' => (∃ gm b, e = .returned (.func (.func 36) #[] #[.pointer (some ⟨gm, 0, none⟩)]) ∧ w.heap.size ≤ gm ∧ Blk w' gm 70 [.map (some b)] ∧ Grps w' w.heap.size b n (fun x : Am => x.k.c) a) ∧ Below w.heap.size w w' := by
  have H := Lib.hid h
  clear h
  go_enter Tryz.func17, Tryz.ntmps17
  go_wp2_with fail
  refine (groupC_is A n cap a _ H.out (by omega)).mono ?_
  rintro e w1 ⟨b, rfl, g1, b1⟩
  have G1 := Lib.hid g1
  have B1 := Lib.hid b1
  have Z1 := Lib.hid (blk_alloc w1 70 [.map none])
  clear g1 b1
  go_wp2_with (refine wpList_storeM rfl _ _ rfl w1.heap.size (.map none) b rfl rfl Z1.out ?_; intro w2 N2 O2)
  have B2 := Lib.hid (box_below O2.out)
  go_ret
  exact ⟨⟨w1.heap.size, b, rfl, B1.out.size, N2.out, G1.out.below B2.out⟩, step_ B1.out B2.out⟩
theorem only_off {g h : Nat} {w a b : World} (h1 : Only g w a) (h2 : Only h a b) (hh : w.heap.size ≤ h) : Only g w b :=
  ⟨h2.os.trans h1.os, h2.tape.trans h1.tape, h2.output.trans h1.output, Nat.le_trans h1.size h2.size, fun k hk hn => (h2.block k (Nat.lt_of_lt_of_le hk h1.size) (by omega)).trans (h1.block k hk hn)⟩
/-- What a round of Carts finds and leaves. -/
def CarI (g3 : Nat) (w1 : World) (M B : Nat) (pre : List (Int × Value)) (V : World) : Prop := ∃ D m c, Blk V g3 34 [.slice D m c] ∧ OwnN V B (.slice D m c) (pre.map (·.1)) ∧ Only g3 w1 V ∧ pre.length ≤ M
set_option maxRecDepth 100000 in
set_option maxHeartbeats 8000000 in
theorem carts17_is (A : Option Addr) (n cap : Nat) (a : List Am) (w : World) (h : RowV w A n cap a) (hl : n ≤ 600) : Calls Tryz.prog 16 #[.slice A n cap] w fun e w' => (∃ v, e = .returned v ∧ OwnN w' w.heap.size v (cartsQ a)) ∧ Below w.heap.size w w' := by
  obtain ⟨g3, hg3⟩ : ∃ g3, w.heap.size = g3 := ⟨_, rfl⟩
  have Q0 := Lib.hid (blk_alloc w 34 [.slice none 0 0])
  have B0 := Lib.hid (new_below w (.cells #[.slice none 0 0] 34))
  have H0 := Lib.hid (h.below B0.out)
  have OA := Lib.hid h.ok
  have AL := Lib.hid h.len
  clear h
  refine (callsIn_wide (n := 10)).1 ?_
  refine callsIn_of_wp_marks Tryz.func16 rfl trivial ?_ rfl
  simp only [Tryz.ntmps16, List.size_toArray, List.length_cons, List.length_nil, Nat.reduceAdd, Nat.reduceSub, Array.replicate_succ, Array.replicate_zero, List.push_toArray, List.append_toArray, List.nil_append, List.cons_append]
  gi_wp2_with fail
  refine ⟨trivial, (callsIn_wide.2 (each17_is A n cap a _ H0.out hl)).mono ?_⟩
  rintro e w1 ⟨⟨gm, b, rfl, lgm, kM, gM⟩, b1⟩
  have Q1 := Lib.hid (show Blk w1 g3 34 [.slice none 0 0] by rw [← hg3]; exact Q0.out.below b1)
  have B1 := Lib.hid (step_ B0.out b1)
  have HE : (w.alloc (.cells #[.slice none 0 0] 34)).heap.size = g3 + 1 := by rw [← hg3]; simp
  rw [HE] at lgm gM
  have LM := Lib.hid lgm
  have KM := Lib.hid kM
  have GM := Lib.hid gM
  have G3 := Lib.hid (show g3 < w1.heap.size from Q1.out.lt)
  have HW := Lib.hid hg3
  clear b1 lgm kM gM HE Q0 B0 H0 hg3
  gi_wp2_with fail
  rename_i K0 hK0
  have HN := Lib.hid (show ∀ V, Only g3 w1 V → Blk V gm 70 [.map (some b)] ∧ Grps V (g3 + 1) b n (fun x : Am => x.k.c) a from fun V ho => ⟨KM.out.only ho (by have := LM.out; omega), GM.out.only ho (by omega)⟩)
  refine range_gen (gf := 36) (lb := #[.pointer (some ⟨gm, 0, none⟩)]) rfl (fun _ _ => rfl) (each_seqY gm (g3 + 1) b n a OA.out (fun V => Only g3 w1 V) hl (by have := AL.out; omega) HN.out) (fun _ => rfl)
    (fun B pre V => CarI g3 w1 n B pre V)
    (fun V => False)
    (fun B pre V V' h hb => by obtain ⟨D, m, c, h1, h2, h3, h4⟩ := h; exact ⟨D, m, c, h1.below hb, h2.below hb, only_later h3 hb, h4⟩)
    (fun B pre V V' h9 h ho hg hB => by
      obtain ⟨D, m, c, h1, h2, h3, h4⟩ := h
      have := G3.out
      exact ⟨D, m, c, h1.only ho (by omega), h2.only ho (h2.geS hB), only_off h3 ho (by omega), h4⟩)
    (fun B pre V o hB h => by
      obtain ⟨D, m, c, h1, h2, h3, h4⟩ := h
      have := G3.out
      exact ⟨D, m, c, blk_put h1 (by omega), h2.putS (h2.geS (by omega)), only_put h3 (by omega), h4⟩)
    (fun V o h => h.elim)
    (fun V V' g h _ _ => h.elim)
    (fun B pre V h => by obtain ⟨D, m, c, h1, h2, h3, h4⟩ := h; exact h3)
    (fun V hb => only_later (only_refl g3 w1) hb)
    (fun B V hB hV hb => ⟨none, 0, 0, Q1.out.below hb, ownN_nil _ _, only_later (only_refl g3 w1) hb, Nat.zero_le _⟩)
    (fun B pre x a' V => ((0 ≤ x.1 ∧ x.1 < 65536) ∧ pre.length < n) ∧ a' = { tmps := #[.slice A n cap, undef, .slice none 0 0, .pointer (some ⟨g3, 0, none⟩), .int .u16 x.1, .slice A n cap, .func (.func 36) #[] #[.pointer (some ⟨gm, 0, none⟩)], .int .u16 x.1, x.2, undef, undef, undef, undef, undef], defers := [] } ∧ CarI g3 w1 n B pre V)
    (fun B pre x a' V o hB h => by
      obtain ⟨hx, e, D, m, c, h1, h2, h3, h4⟩ := h
      have := G3.out
      exact ⟨hx, e, D, m, c, blk_put h1 (by omega), h2.putS (h2.geS (by omega)), only_put h3 (by omega), h4⟩)
    ?assign ?body ?done ?stop
  case assign =>
    intro l B pre x W K hnx hi hB hB2 hlt hK
    have XO := Lib.hid hnx
    have HI := Lib.hid hi
    clear hi hnx
    simp only [encCV, List.zip_toArray, List.zip_cons_cons, List.zip_nil_right, List.foldl_toArray', List.foldl_cons, List.foldl_nil, List.size_toArray, List.length_cons, List.length_nil, List.setIfInBounds_toArray, List.set_cons_zero, List.set_cons_succ]
    gi_wp2_with fail
    obtain ⟨D, m, c, h1, h2, h3, h4⟩ := HI.out
    exact hK _ _ (Below.refl _ _) ⟨XO.out, by first | rfl | (trace_state; rfl), D, m, c, h1, h2, h3, h4⟩
  case body =>
    intro l B pre x a' W hnx hax hB hB2 hlt
    obtain ⟨hx, rfl, D, m, c, h1, h2, h3, h4⟩ := hax
    have XO := Lib.hid hx
    have H1 := Lib.hid h1
    have H2 := Lib.hid h2
    have H3 := Lib.hid h3
    have LB := Lib.hid hB
    have LB2 := Lib.hid hB2
    have PL := Lib.hid (show (pre.map (·.1)).length + [x.1].length ≤ 30000 by rw [List.length_map]; simp; omega)
    have c0 := h1.cell (i := 0) rfl
    clear hx h1 h2 h3 hB hB2 h4
    gi_wp2_with (first
      | (refine in_plain (wide_in l) rfl (by intro c h; cases h) ?_; refine wpList_num1 Tryz.underlying34 rfl _ rfl x.1 rfl XO.out.1 ?_; intro g6 w6 e6 N6 B6; refine in_done ?_)
      | (refine in_plain (wide_in l) rfl (by intro c h; cases h) ?_; refine wpList_app_n Tryz.underlying34 rfl _ _ rfl B (.slice D m c) (.slice (some ⟨g6, 0, none⟩) 1 1) (pre.map (·.1)) [x.1] rfl rfl (H2.out.below B6.out) N6.out PL.out (Nat.le_trans LB2.out B6.out.size) ?_; intro D7 m7 c7 w7 e7 O7 B7 G7; refine in_done ?_)
      | (refine in_plain (wide_in l) rfl (by intro c h; cases h) ?_; refine wpList_storeS rfl _ _ rfl g3 (.slice D m c) D7 m7 c7 rfl rfl ((H1.out.below B6.out).upto B7.out (by have := LB.out; have := G3.out; omega)) ?_; intro w8 N8 O8; refine in_done ?_))
    have BW := Lib.hid (show Below B W w7 from (B6.out.mono LB2.out).trans B7.out)
    have G3' := G3.out
    have LB' := LB.out
    refine ⟨?_, fun k hk1 hk2 => ?_, D7, m7, c7, N8.out, ?_, ?_, ?_⟩
    · exact (KeepL.below BW.out (by omega)).trans (KeepL.only O8.out (by omega) (by omega) (by have := BW.out.size; have := LB2.out; omega))
    · exact (O8.out.block k (by have := BW.out.size; have := LB2.out; omega) (by omega)).trans (BW.out.block k hk2)
    · rw [List.map_append]; exact O7.out.only O8.out (O7.out.geS (by omega))
    · exact (only_below H3.out BW.out (by omega)).trans O8.out
    · rw [List.length_append, List.length_singleton]; have := XO.out.2; omega
  case done =>
    intro D B s W hD hD2 hB hf hi hd
    obtain ⟨D1, m1, c1, h1, h2, h3, h4⟩ := hi
    have F := Lib.hid (show s.map (·.1) = cartsQ a from hf)
    have OW := Lib.hid h2
    have H3 := Lib.hid h3
    have c0 := h1.cell (i := 0) rfl
    have HD := Lib.hid hd
    have LB := Lib.hid hB
    have LD := Lib.hid (And.intro hD hD2)
    clear hd h1 h2 h3 hf h4 hB hD hD2
    show K0 _ _
    refine hK0 _ _ ?_
    gi_wp2_with fail
    refine marks_ret D rfl HD.out (results_tmp rfl _ _ _) ?_
    have LB' := LB.out
    have LD' := LD.out
    have G3' := G3.out
    have HW' := HW.out
    refine ⟨⟨_, rfl, ?_⟩, below_put (B1.out.trans (H3.out.below (by have := HW.out; omega) B1.out.size)) (by have := HW.out; omega)⟩
    rw [← F.out]
    exact (OW.out.down (by omega)).putS (OW.out.geS (by omega))
  case stop =>
    intro D W hD hx hd
    exact hx.elim
end Go.Proofs.YtijfbhdbfplghaaGreat
namespace Go.Proofs.YtijfbhdbfplghaaGreat
open Go.RowKit
end Go.Proofs.YtijfbhdbfplghaaGreat
