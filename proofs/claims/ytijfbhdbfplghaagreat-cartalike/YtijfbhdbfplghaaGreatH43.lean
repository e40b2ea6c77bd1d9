/- Totals of halves: count.sign and count.Total. -/
import Derived.Test.YtijfbhdbfplghaaGreatH41
import Derived.Test.YtijfbhdbfplghaaGreatH12
import Derived.Test.YtijfbhdbfplghaaGreatH26
import Derived.Test.YtijfbhdbfplghaaGreatH29
namespace Go.Proofs.YtijfbhdbfplghaaGreat
open Go.RowKit
attribute [local go_sem] Oper.semAt_some
theorem am_n_rg {s : List Am} (h : St s) {x : Am} (hx : x ∈ s) : 0 ≤ x.v.n ∧ x.v.n < 1099511627776 := by
  have h0 := (h.ok x hx).v.n0
  have hv := am_right_v (h.rt x hx)
  refine ⟨h0, ?_⟩
  unfold valB betweenB at hv
  split at hv
  · simp only [Bool.and_eq_true, decide_eq_true_eq] at hv; omega
  · split at hv
    · unfold lineB stampB at hv
      simp only [Bool.and_eq_true, decide_eq_true_eq] at hv
      exact hv.1.1
    · simp only [Bool.and_eq_true, decide_eq_true_eq] at hv; omega
theorem sg_rg (t : Int) : sg t = 0 ∨ sg t = 1 ∨ sg t = -1 := by unfold sg; split; exact .inr (.inl rfl); split; exact .inr (.inr rfl); exact .inl rfl
set_option maxRecDepth 100000 in
theorem sign_is (t : Int) (w : World) : Calls Tryz.prog 52 #[.int .u8 t] w fun e w' => e = .returned (.int .i64 (sg t)) ∧ w' = w := by
  go_enter Tryz.func52, Tryz.ntmps52
  by_cases h2 : t = 2
  · subst h2
    go_wp2_with fail
    exact bodyPost_ret (results_tmp rfl _ _ _) rfl ⟨rfl, rfl⟩
  · by_cases h3 : t = 3
    · subst h3
      go_wp2_with fail
      exact bodyPost_ret (results_tmp rfl _ _ _) rfl ⟨rfl, rfl⟩
    · have H3 := Lib.hid h3
      go_wp2_with fail
      refine bodyPost_ret (results_tmp rfl _ _ _) rfl ⟨?_, rfl⟩
      rw [sg_no (fun e => e.elim h2 H3.out)]
      rfl
theorem tot_val {p t n : Int} (hn : 0 ≤ n ∧ n < 1099511627776) (hp : -68719476720 ≤ p ∧ p ≤ 68719476720) : IntKind.i64.wrap (p + IntKind.i64.wrap (sg t * IntKind.i64.wrap n)) = p + sg t * n := by
  have e1 : IntKind.i64.wrap n = n := wrap_small (by omega) (by omega)
  rw [e1]
  rcases sg_rg t with e | e | e <;> rw [e]
  · rw [show IntKind.i64.wrap (0 * n) = 0 * n from wrap_small (by omega) (by omega)]
    exact wrap_small (by omega) (by omega)
  · rw [show IntKind.i64.wrap (1 * n) = 1 * n from wrap_small (by omega) (by omega)]
    exact wrap_small (by omega) (by omega)
  · rw [show IntKind.i64.wrap (-1 * n) = -1 * n from wrap_small (by omega) (by omega)]
    exact wrap_small (by omega) (by omega)
theorem tot_end {V w2 : World} {g B : Nat} {p q u : Int} (J : Blk V g 3 [.int .i64 p]) (O : Off2 g g w2 V) (hg : g < w2.heap.size) (hlt : w2.heap.size + 1 < V.heap.size) (hB : B ≤ V.heap.size) (hu : u = q) :
    KeepL w2.heap.size V (V.setCell ⟨g, 0, none⟩ (.int .i64 u)).drew ∧ (∀ k : Nat, w2.heap.size + 2 ≤ k → k < B → (V.setCell ⟨g, 0, none⟩ (.int .i64 u)).drew.heap[k]? = V.heap[k]?) ∧
      Blk (V.setCell ⟨g, 0, none⟩ (.int .i64 u)).drew g 3 [.int .i64 q] ∧ Off2 g g w2 (V.setCell ⟨g, 0, none⟩ (.int .i64 u)).drew := by
  subst hu
  have o1 : Only g V (V.setCell ⟨g, 0, none⟩ (.int .i64 u)).drew := (Only.set g 0 V (.int .i64 u)).trans (only_drew g _)
  exact ⟨KeepL.only o1 (by omega) (by omega) hlt, fun k h1 h2 => o1.block k (by omega) (by omega), J.set 0 (.int .i64 u), O.only o1 (.inl rfl)⟩
set_option maxRecDepth 100000 in
set_option maxHeartbeats 4000000 in
theorem total_is (A : Option Addr) (n cap : Nat) (a : List Am) (c : Int) (m : List Int) (T : Int) (w : World) (h : RowV w A n cap a) (hn : n ≤ 600) (hm : m.length = 8) (hT : Hid (tot a c m = T)) : Calls Tryz.prog 27 #[.slice A n cap, .int .u16 c, .agg (nm m)] w fun e w' => e = .returned (.int .i64 T) ∧ Below w.heap.size w w' := by
  have H := Lib.hid h
  have HM := Lib.hid hm
  clear h hm
  have N1 := Lib.hid (blk_alloc w 23 [.int .u16 c])
  have N2 := Lib.hid (blk2 w (.cells #[.int .u16 c] 23) 25 (nmL m))
  have N3 := Lib.hid (show Blk _ (w.heap.size + 1 + 1) 3 [.int .i64 0] from blk3 w (.cells #[.int .u16 c] 23) (.cells (nm m) 25) 3 [.int .i64 0])
  have B0 := Lib.hid (step_ (step_ (new_below w (.cells #[.int .u16 c] 23)) (new_below _ (.cells (nm m) 25))) (new_below _ (.cells #[.int .i64 0] 3)))
  have N1' := Lib.hid ((N1.out.alloc (.cells (nm m) 25)).alloc (.cells #[.int .i64 0] 3))
  have N2' := Lib.hid (N2.out.alloc (.cells #[.int .i64 0] 3))
  refine (callsIn_wide (n := 10)).1 ?_
  refine callsIn_of_wp_marks Tryz.func27 rfl trivial ?_ rfl
  simp only [Tryz.ntmps27, List.size_toArray, List.length_cons, List.length_nil, Nat.reduceAdd, Nat.reduceSub, Array.replicate_succ, Array.replicate_zero, List.push_toArray, List.append_toArray, List.nil_append, List.cons_append]
  gi_wp2_with fail
  refine ⟨trivial, (callsIn_wide.2 (each_isO A n cap a _ (H.out.below B0.out) hn)).mono ?_⟩
  rintro e w2 ⟨⟨Bs, D, m1, c1, rfl, lbs, k1, r1, f1⟩, b1⟩
  have K1 := Lib.hid k1
  have R1 := Lib.hid r1
  have F1 := Lib.hid f1
  have LBS := Lib.hid lbs
  have B1 := Lib.hid (step_ B0.out b1)
  have E1 := Lib.hid (N1'.out.below b1)
  have E2 := Lib.hid (N2'.out.below b1)
  have E3 := Lib.hid (N3.out.below b1)
  have SZ := Lib.hid (show w.heap.size + 3 ≤ w2.heap.size by have := b1.size; simp at this; omega)
  have LB2 := Lib.hid (show w.heap.size + 3 ≤ Bs by simp at lbs; omega)
  have F2 := Lib.hid (show ∀ G off, D = some ⟨G, off, none⟩ → w.heap.size + 3 ≤ G from fun G off e => by have := f1 G off e; simp at this; omega)
  have hm1 : m1 ≤ 1000 := by have := norm_len a; rw [r1.len, H.out.len] at *; omega
  have ST := Lib.hid (norm_st H.out.ok)
  clear k1 r1 f1 lbs b1 N1 N2 N3 N1' N2' B0 F1 LBS
  gi_wp2_with fail
  rename_i K0 hK0
  obtain ⟨s, hs⟩ : ∃ s, norm a = s := ⟨_, rfl⟩
  rw [hs] at R1 ST
  have TT := Lib.hid (show sm c m s = T by rw [← hs]; exact hT.out)
  clear hs hT
  refine range_gen (gf := 75) (lb := #[.pointer (some ⟨Bs, 0, none⟩)]) rfl (fun _ _ => rfl) (each_gen Bs D m1 c1 s hm1) (fun _ => rfl)
    (fun B pre V => Blk V (w.heap.size + 1 + 1) 3 [.int .i64 (sm c m pre)] ∧ Off2 (w.heap.size + 1 + 1) (w.heap.size + 1 + 1) w2 V)
    (fun V => False)
    (fun B pre V V' h hb => ⟨h.1.below hb, h.2.below hb h.2.size⟩)
    (fun B pre V V' h9 h ho hg hB => by have := SZ.out; exact ⟨h.1.only ho (by omega), h.2.only ho (.inr (.inr (by omega)))⟩)
    (fun B pre V o hB h => by have := SZ.out; exact ⟨blk_put h.1 (by omega), h.2.only (only_putObj _ _ _) (.inr (.inr (by omega)))⟩)
    (fun V o h => h.elim)
    (fun V V' g h _ _ => h.elim)
    (fun B pre V h => by have := LB2.out; exact ⟨h.2.blk K1.out (by omega) (by omega), rowV_seg R1.out F2.out (fun k h1 h2 => h.2.block k h2 (by omega) (by omega)) h.2.size⟩)
    (fun V hb => ⟨K1.out.below hb, R1.out.below hb⟩)
    (fun B V hB hV hb => ⟨E3.out.below hb, Off2.of_below hb⟩)
    (fun B pre x a' V => x ∈ s ∧ -68719476720 ≤ sm c m pre ∧ sm c m pre ≤ 68719476720 ∧ -68719476720 ≤ sm c m (pre ++ [x]) ∧ sm c m (pre ++ [x]) ≤ 68719476720 ∧ ∃ g8 g9, a' = { tmps := #[.slice A n cap, .int .u16 c, .agg (nm m), undef, .pointer (some ⟨w.heap.size, 0, none⟩), .pointer (some ⟨w.heap.size + 1, 0, none⟩), .int .i64 0, .pointer (some ⟨w.heap.size + 1 + 1, 0, none⟩), .pointer (some ⟨g8, 0, none⟩), .pointer (some ⟨g9, 0, none⟩), .slice A n cap, .func (.func 75) #[] #[.pointer (some ⟨Bs, 0, none⟩)], .agg x.k.cells.toArray, .agg x.v.cells.toArray, undef, undef, undef, undef, undef, undef, undef, undef, undef, undef, undef, undef, undef, undef, undef, undef, undef, undef, undef, undef], defers := [] } ∧ B ≤ g8 ∧ B ≤ g9 ∧ Blk V g8 53 x.k.cells ∧ Blk V g9 56 x.v.cells ∧ Blk V (w.heap.size + 1 + 1) 3 [.int .i64 (sm c m pre)] ∧ Off2 (w.heap.size + 1 + 1) (w.heap.size + 1 + 1) w2 V)
    (fun B pre x a' V o hB h => by
      obtain ⟨hx, p1, p2, p3, p4, g8, g9, e, l8, l9, k8, k9, hj, ho⟩ := h
      have := SZ.out
      exact ⟨hx, p1, p2, p3, p4, g8, g9, e, l8, l9, blk_put k8 (by omega), blk_put k9 (by omega), blk_put hj (by omega), ho.only (only_putObj _ _ _) (.inr (.inr (by omega)))⟩)
    ?assign ?body ?done ?stop
  case assign =>
    intro l2 B pre x V K hnx hi hB hB2 hlt hK
    have MX := Lib.hid (show x ∈ s by obtain ⟨rest, e⟩ := hnx; rw [e]; simp)
    have XO := Lib.hid (ST.out.ok x MX.out)
    have RG := Lib.hid (show (-68719476720 ≤ sm c m pre ∧ sm c m pre ≤ 68719476720) ∧ (-68719476720 ≤ sm c m (pre ++ [x]) ∧ sm c m (pre ++ [x]) ≤ 68719476720) by
      obtain ⟨rest, e⟩ := hnx
      have s1 : St (pre ++ [x]) := St.left (m := rest) (by rw [List.append_assoc, List.singleton_append, ← e]; exact ST.out)
      exact ⟨sm_rg (St.left s1) c m, sm_rg s1 c m⟩)
    have HI := Lib.hid hi
    have Z1 := Lib.hid (blk_alloc V 53 kzero.cells)
    have hz := zero27
    have hz2 := zero30
    clear hi hnx
    simp only [encP, List.zip_toArray, List.zip_cons_cons, List.zip_nil_right, List.foldl_toArray', List.foldl_cons, List.foldl_nil, List.size_toArray, List.length_cons, List.length_nil, List.setIfInBounds_toArray, List.set_cons_zero, List.set_cons_succ]
    gi_wp2_with (first
      | (refine in_plain (wide_in l2) rfl (by intro c h; cases h) ?_; refine wpList_store_ky rfl _ _ rfl V.heap.size kzero x.k rfl rfl Z1.out kzero_ok.ml XO.out.k.ml ?_; intro V1 N1 O1; have Z2 := Lib.hid (blk_alloc V1 56 vzero.cells); have BV := Lib.hid (box_below O1.out); refine in_done ?_)
      | (refine in_plain (wide_in l2) rfl (by intro c h; cases h) ?_; refine wpList_store_vl rfl _ _ rfl V1.heap.size vzero x.v rfl rfl Z2.out rfl XO.out.v.tl ?_; intro V2 N2 O2; refine in_done ?_))
    have QQ := box_below O2.out
    have Q3 := step_ BV.out QQ
    obtain ⟨h1, h2⟩ := HI.out
    exact hK _ _ Q3 ⟨MX.out, RG.out.1.1, RG.out.1.2, RG.out.2.1, RG.out.2.2, _, _, rfl, hB2, Nat.le_trans hB2 BV.out.size, N1.out.below QQ, N2.out, h1.below Q3, h2.below Q3 h2.size⟩
  case body =>
    intro l2 B pre x a' V hnx hax hB hB2 hlt
    obtain ⟨hx, p1, p2, p3, p4, g8, g9, rfl, l8, l9, k8, k9, hj, ho⟩ := hax
    have XO := Lib.hid (ST.out.ok x hx)
    have XR := Lib.hid (am_n_rg ST.out hx)
    have G8 := Lib.hid k8
    have G9 := Lib.hid k9
    have JJ := Lib.hid hj
    have OW := Lib.hid ho
    have P1 := Lib.hid (And.intro p1 p2)
    have P2 := Lib.hid (And.intro p3 p4)
    have SN := Lib.hid (sm_snoc c m pre x)
    have V1 := Lib.hid (ho.blk E1.out (by omega) (by omega))
    have V2 := Lib.hid (ho.blk E2.out (by omega) (by omega))
    have c1 := V1.out.cell (i := 0) rfl
    have c2 := k8.cell (kc1 x.k)
    have c3 := k8.cell (kc0 x.k)
    have c4 := hj.cell (i := 0) rfl
    have c5 := k9.cell (i := 0) rfl
    clear k8 k9 hj ho hx hnx p1 p2 p3 p4
    by_cases k1 : x.k.c = c
    · by_cases k2 : x.k.m = m
      · have E := Lib.hid (show (x.k.m == m) = true by simpa using k2)
        have EC := Lib.hid (show ct c m x = sg x.k.s * x.v.n by unfold ct; rw [if_pos ⟨k1, k2⟩])
        clear k2
        gi_wp2_with (first
          | (refine in_want rfl ?_; refine in_plain (wide_in l2) rfl (by intro c h; cases h) ?_; refine wpList_load_nm rfl _ rfl g8 2 x.k.m rfl (G8.out.knm XO.out.k.ml) XO.out.k.ml ?_; refine in_done ?_)
          | (refine in_want rfl ?_; refine in_plain (wide_in l2) rfl (by intro c h; cases h) ?_; refine wpList_load_nm rfl _ rfl (w.heap.size + 1) 0 m rfl V2.out.range HM.out ?_; refine in_done ?_)
          | (refine in_want rfl ?_; refine in_plain (wide_in l2) rfl (by intro c h; cases h) ?_; refine wpList_val rfl _ (exec_eq_nm _ _ _ rfl x.k.m m rfl rfl XO.out.k.ml HM.out) ?_; rw [E.out]; refine in_done ?_))
        have TE := Lib.hid (tot_end (B := B) JJ.out OW.out (by have := SZ.out; omega) hlt hB2 (show IntKind.i64.wrap (sm c m pre + IntKind.i64.wrap (sg x.k.s * IntKind.i64.wrap x.v.n)) = sm c m (pre ++ [x]) by rw [tot_val XR.out P1.out, SN.out, EC.out]))
        have hmx : Tryz.prog.follows .mixedOrders = true := by kernel_rfl
        have c6 := JJ.out.frozen 0
        gi_region_with_o (refine ⟨trivial, (calls_in (wide_in l2) (sign_is _ _)).mono ?_⟩; rintro e w' ⟨rfl, rfl⟩)
        all_goals gi_wp2
        all_goals exact TE.out
      · have E := Lib.hid (show (x.k.m == m) = false by simpa using k2)
        have EC := Lib.hid (show ct c m x = 0 by unfold ct; rw [if_neg (fun e => k2 e.2)])
        clear k2
        gi_wp2_with (first
          | (refine in_want rfl ?_; refine in_plain (wide_in l2) rfl (by intro c h; cases h) ?_; refine wpList_load_nm rfl _ rfl g8 2 x.k.m rfl (G8.out.knm XO.out.k.ml) XO.out.k.ml ?_; refine in_done ?_)
          | (refine in_want rfl ?_; refine in_plain (wide_in l2) rfl (by intro c h; cases h) ?_; refine wpList_load_nm rfl _ rfl (w.heap.size + 1) 0 m rfl V2.out.range HM.out ?_; refine in_done ?_)
          | (refine in_want rfl ?_; refine in_plain (wide_in l2) rfl (by intro c h; cases h) ?_; refine wpList_val rfl _ (exec_eq_nm _ _ _ rfl x.k.m m rfl rfl XO.out.k.ml HM.out) ?_; rw [E.out]; refine in_done ?_))
        exact ⟨KeepL.below (Below.refl _ _) hlt, by rw [SN.out, EC.out, Int.add_zero]; exact JJ.out, OW.out⟩
    · have EC := Lib.hid (show ct c m x = 0 by unfold ct; rw [if_neg (fun e => k1 e.1)])
      gi_wp2_with fail
      exact ⟨KeepL.below (Below.refl _ _) hlt, by rw [SN.out, EC.out, Int.add_zero]; exact JJ.out, OW.out⟩
  case done =>
    intro D9 B t V hD hD2 hB hf hi hd
    obtain ⟨h1, h2⟩ := hi
    subst hf
    rw [TT.out] at h1
    have c1 := h1.cell (i := 0) rfl
    have HD := Lib.hid hd
    have OF := Lib.hid h2
    have LD := Lib.hid hD
    clear hd h1 h2
    refine hK0 _ _ ?_
    gi_wp2_with fail
    refine marks_ret D9 rfl HD.out (results_tmp rfl _ _ _) ⟨rfl, ?_⟩
    have h1 := B1.out.size
    have h2 := LD.out
    exact below_put (B1.out.trans (OF.out.down (by omega) (by omega) h1)) (by omega)
  case stop =>
    intro D9 V hD hx hd
    exact hx.elim
end Go.Proofs.YtijfbhdbfplghaaGreat
