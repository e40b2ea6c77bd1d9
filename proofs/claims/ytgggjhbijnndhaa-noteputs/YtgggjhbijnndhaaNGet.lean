/- The contract of Get of package note. The condition that a key is that of the note of any cart. Written by wip/tools/nany_r16.py. The contract of Carts of package note. -/
import Derived.Test.YtgggjhbijnndhaaNPick
import Derived.Test.YtgggjhbijnndhaaLoadsN
import Derived.Test.YtgggjhbijnndhaaNumsW
namespace Go.Proofs.Ytgggjhbijnndhaa
open Go.RowKit Go.Shelf
attribute [local go_sem] Oper.semAt_some

theorem sel_some {s : List Am} (h : St s) {c : Int} {x : Am} (hx : x ∈ selK (ofK c) s) : fnd s (noteK c) = some x.v := by
  obtain ⟨h1, h2⟩ := List.mem_filter.1 hx
  have e : x.k = noteK c := of_decide_eq_true h2
  rw [← e]; exact fnd_of_mem h h1
theorem sel_none {s : List Am} {c : Int} (hx : selK (ofK c) s = []) : fnd s (noteK c) = none := by
  cases e : fnd s (noteK c) with
  | none => rfl
  | some v =>
    have hm : (⟨noteK c, v⟩ : Am) ∈ selK (ofK c) s := List.mem_filter.2 ⟨fnd_mem e, decide_eq_true rfl⟩
    rw [hx] at hm; cases hm
theorem noteV_some {a : List Am} (h : OkR a) {c : Int} {x : Am} (hx : x ∈ selK (ofK c) (norm a)) : noteV a c = x.v := by
  have := sel_some (norm_st h) hx
  unfold noteV
  rw [← fnd_norm h, this]; rfl
theorem noteV_none {a : List Am} (h : OkR a) {c : Int} (hx : selK (ofK c) (norm a) = []) : noteV a c = vzero := by
  have := sel_none hx
  unfold noteV
  rw [← fnd_norm h, this]; rfl
/-- The call answers a note. -/
def GivesN (w : World) (v : Vl) (e : Ending) (w' : World) : Prop := e = .returned (.tuple #[.agg (nm v.t), .int .u32 (vnum v), .int .u8 (vrep v)]) ∧ Below w.heap.size w w'
set_option maxRecDepth 100000 in
set_option maxHeartbeats 8000000 in
theorem get_is (A : Option Addr) (n cap : Nat) (a : List Am) (c : Int) (v : Vl) (w : World) (h : RowV w A n cap a) (hn : n ≤ 600) (hc : 0 ≤ c ∧ c < 65536) (hv : Hid (noteV a c = v)) : Calls Try.prog 7 #[.slice A n cap, .int .u16 c] w (GivesN w v) := by
  have OK := Lib.hid h.ok
  have ST := Lib.hid (norm_st h.ok)
  have HC := Lib.hid hc
  have hz := zero23
  have hz2 := zero30
  obtain ⟨w3, ew3⟩ : ∃ w3, w3 = ((w.alloc (.cells (nm M.zero8) 26)).alloc (.cells #[.int .u32 0] 27)).alloc (.cells #[.int .u8 0] 5) := ⟨_, rfl⟩
  have N4 := Lib.hid (show Blk w3 w.heap.size 26 (nmL M.zero8) by rw [ew3]; exact ((blk_alloc w 26 (nmL M.zero8)).alloc (.cells #[.int .u32 0] 27)).alloc (.cells #[.int .u8 0] 5))
  have N5 := Lib.hid (show Blk w3 (w.heap.size + 1) 27 [.int .u32 0] by rw [ew3]; exact (blk2 w (.cells (nm M.zero8) 26) 27 [.int .u32 0]).alloc (.cells #[.int .u8 0] 5))
  have N6 := Lib.hid (show Blk w3 (w.heap.size + 1 + 1) 5 [.int .u8 0] by rw [ew3]; have := blk2 (w.alloc (.cells (nm M.zero8) 26)) (.cells #[.int .u32 0] 27) 5 [.int .u8 0]; rw [show (w.alloc (.cells (nm M.zero8) 26)).heap.size = w.heap.size + 1 by unfold World.alloc; exact Array.size_push _] at this; exact this)
  have B3 := Lib.hid (show Below w.heap.size w w3 by rw [ew3]; exact step_ (step_ (new_below w (.cells (nm M.zero8) 26)) (new_below _ (.cells #[.int .u32 0] 27))) (new_below _ (.cells #[.int .u8 0] 5)))
  have H3 := Lib.hid (h.below B3.out)
  clear h hc
  refine (callsIn_wide (n := 10)).1 ?_
  refine callsIn_of_wp_marks Try.func7 rfl trivial ?_ rfl
  simp only [Try.ntmps7, List.size_toArray, List.length_cons, List.length_nil, Nat.reduceAdd, Nat.reduceSub, Array.replicate_succ, Array.replicate_zero, List.push_toArray, List.append_toArray, List.nil_append, List.cons_append]
  gi_wp2_with fail
  rw [← ew3]
  clear ew3
  refine ⟨trivial, (callsIn_wide.2 (of_is c _)).mono ?_⟩
  rintro e w1 ⟨⟨ga, rfl, k1, -⟩, b1⟩
  have K1 := Lib.hid k1
  have B1 := Lib.hid (step_ B3.out b1)
  have P4 := Lib.hid (N4.out.below b1)
  have P5 := Lib.hid (N5.out.below b1)
  have P6 := Lib.hid (N6.out.below b1)
  have H1 := Lib.hid (H3.out.below b1)
  clear k1 b1 N4 N5 N6 H3 B3
  gi_wp2_with fail
  refine ⟨trivial, (callsIn_wide.2 (pickN_is A n cap _ _ _)).mono ?_⟩
  rintro e w4 ⟨⟨gd, ge, rfl, k5, k6, -, -⟩, b4⟩
  have K5 := Lib.hid k5
  have K6 := Lib.hid k6
  have K4 := Lib.hid (K1.out.below b4)
  have B4 := Lib.hid (step_ B1.out b4)
  have Q4 := Lib.hid (P4.out.below b4)
  have Q5 := Lib.hid (P5.out.below b4)
  have Q6 := Lib.hid (P6.out.below b4)
  have H4 := Lib.hid (H1.out.below b4)
  have LT := Lib.hid (show w.heap.size + 1 + 1 < w4.heap.size from Q6.out.lt)
  clear k5 k6 b4 P4 P5 P6 H1 K1 B1
  gi_wp2_with fail
  rename_i K0 hK0
  refine range_gen (gf := 32) rfl (fun _ _ => rfl) (pickN_seq 34 _ (fun _ _ => rfl) _ _ (of_cond c HC.out ga) (fun V V' h hb => h.below hb) _ _ A n cap a hn) (fun _ => rfl)
    (fun B pre V => pre = [] ∧ Below w4.heap.size w4 V)
    (fun V => (Blk V w.heap.size 26 (nmL v.t) ∧ Blk V (w.heap.size + 1) 27 [.int .u32 (vnum v)] ∧ Blk V (w.heap.size + 1 + 1) 5 [.int .u8 (vrep v)]) ∧ Below w.heap.size w V ∧ v.t.length = 8)
    (fun B pre V V' h hb => ⟨h.1, h.2.trans (hb.mono h.2.size)⟩)
    (fun B pre V V' h9 h ho hg hB => ⟨h.1, h.2.trans (ho.below (by omega) h.2.size)⟩)
    (fun B pre V o hB h => ⟨h.1, below_put h.2 (by omega)⟩)
    (fun V o h => by
      have := LT.out
      exact ⟨⟨blk_put h.1.1 (by omega), blk_put h.1.2.1 (by omega), blk_put h.1.2.2 (by omega)⟩, below_put h.2.1 (by omega), h.2.2⟩)
    (fun V V' g h ho hg => by
      have := LT.out
      exact ⟨⟨h.1.1.only ho (by omega), h.1.2.1.only ho (by omega), h.1.2.2.only ho (by omega)⟩, h.2.1.trans (ho.below (by omega) h.2.1.size), h.2.2⟩)
    (fun B pre V h => ⟨⟨K5.out.below h.2, H4.out.below h.2⟩, K6.out.below h.2, K4.out.below h.2⟩)
    (fun V hb => ⟨⟨K5.out.below hb, H4.out.below hb⟩, K6.out.below hb, K4.out.below hb⟩)
    (fun B V hB hV hb => ⟨rfl, hb⟩)
    (fun B pre x a' V => ∃ g8, a' = { tmps := #[.slice A n cap, .int .u16 c, undef, undef, .pointer (some ⟨w.heap.size, 0, none⟩), .pointer (some ⟨w.heap.size + 1, 0, none⟩), .pointer (some ⟨w.heap.size + 1 + 1, 0, none⟩), undef, .pointer (some ⟨g8, 0, none⟩), undef, undef, .slice A n cap, .int .u16 c, .func (.func 34) #[] #[.pointer (some ⟨ga, 0, none⟩)], .func (.func 32) #[] #[.pointer (some ⟨gd, 0, none⟩), .pointer (some ⟨ge, 0, none⟩)], .agg x.k.cells.toArray, .agg x.v.cells.toArray, undef, undef, undef, undef, undef, undef, undef, undef, undef, undef, undef], defers := [] } ∧ B ≤ g8 ∧ Blk V g8 38 x.v.cells ∧ pre = [] ∧ Below w4.heap.size w4 V)
    (fun B pre x a' V o hB h => by
      obtain ⟨g8, e, h1, h2, h3, h4⟩ := h
      exact ⟨g8, e, h1, blk_put h2 (by omega), h3, below_put h4 (by omega)⟩)
    ?assign ?body ?done ?stop
  case assign =>
    intro l B pre x V K hnx hi hB hB2 hlt hK
    have XO := Lib.hid (show x.Ok by obtain ⟨rest, e⟩ := hnx; exact ST.out.ok x (List.mem_filter.1 (show x ∈ selK (ofK c) (norm a) by rw [e]; simp)).1)
    have Z1 := Lib.hid (blk_alloc V 38 vzero.cells)
    have HI := Lib.hid hi
    clear hi hnx
    simp only [encP, List.zip_toArray, List.zip_cons_cons, List.zip_nil_right, List.foldl_toArray', List.foldl_cons, List.foldl_nil, List.size_toArray, List.length_cons, List.length_nil, List.setIfInBounds_toArray, List.set_cons_zero, List.set_cons_succ]
    gi_wp2_with (refine in_plain (wide_in l) rfl (by intro c h; cases h) ?_; refine wpList_store_vl rfl _ _ rfl V.heap.size vzero x.v rfl rfl Z1.out rfl XO.out.v.tl ?_; intro V1 N1 O1; refine in_done ?_)
    have QQ := box_below O1.out
    exact hK _ _ QQ ⟨_, rfl, hB2, N1.out, HI.out.1, HI.out.2.trans (QQ.mono HI.out.2.size)⟩
  case body =>
    intro l B pre x a' V hnx hax hB hB2 hlt
    obtain ⟨g8, rfl, l8, k8, hp, hb⟩ := hax
    have XM := Lib.hid (show x ∈ selK (ofK c) (norm a) by obtain ⟨rest, e⟩ := hnx; rw [e]; simp)
    have XO := Lib.hid (ST.out.ok x (List.mem_filter.1 XM.out).1)
    obtain rfl : x.v = v := (noteV_some OK.out XM.out).symm.trans hv.out
    have K8 := Lib.hid k8
    have HB := Lib.hid hb
    have HLT := Lib.hid hlt
    have L8 := Lib.hid l8
    have c8 := k8.cell (vc0 x.v)
    have V4 := Lib.hid (Q4.out.below hb)
    have V5 := Lib.hid (Q5.out.below hb)
    have V6 := Lib.hid (Q6.out.below hb)
    have LW := Lib.hid (show w4.heap.size ≤ V.heap.size ∧ w4.heap.size < B by omega)
    clear hp hb hnx k8 l8
    gi_wp2_with fail
    refine ⟨trivial, (calls_in (wide_in l) (unstamp_is x.v.n (vnum x.v) (vrep x.v) _ (Lib.hid rfl) (Lib.hid rfl))).mono ?_⟩
    rintro e w5 ⟨rfl, rfl⟩
    gi_wp2_with (first
      | (refine in_plain (wide_in l) rfl (by intro c h; cases h) ?_; refine wpList_load_nm rfl _ rfl g8 1 x.v.t rfl K8.out.vnm XO.out.v.tl ?_; refine in_done ?_)
      | (refine in_plain (wide_in l) rfl (by intro c h; cases h) ?_; refine wpList_store_cs rfl 26 _ _ rfl w.heap.size (nmL M.zero8) (nmL x.v.t) rfl rfl V4.out (by unfold nmL; rw [List.length_map, List.length_map, XO.out.v.tl]; rfl) (size_nmL XO.out.v.tl) (nm_one x.v.t) ?_; intro W1 N1 O1; have LT0 := LT.out; have U5 := Lib.hid (V5.out.only O1.out (by omega)); have U6 := Lib.hid (V6.out.only O1.out (by omega)); clear LT0; refine in_done ?_)
      | (refine in_plain (wide_in l) rfl (by intro c h; cases h) ?_; refine wpList_store_i Try.sizeOf27 rfl _ _ rfl (w.heap.size + 1) (.int .u32 0) (vnum x.v) rfl rfl U5.out ?_; intro W2 N2 O2; have LT0 := LT.out; have T4 := Lib.hid (N1.out.only O2.out (by omega)); have T6 := Lib.hid (U6.out.only O2.out (by omega)); clear LT0; refine in_done ?_)
      | (refine in_plain (wide_in l) rfl (by intro c h; cases h) ?_; refine wpList_store_i Try.sizeOf5 rfl _ _ rfl (w.heap.size + 1 + 1) (.int .u8 0) (vrep x.v) rfl rfl T6.out ?_; intro W3 N3 O3; refine in_done ?_))
    have hlt0 := LT.out
    have h1 := O1.out.size
    have h2 := O2.out.size
    have h3 := O3.out.size
    have h4 := B4.out.size
    have h5 := LW.out
    have hl := HLT.out
    refine ⟨((KeepL.only O1.out (by omega) (by omega) hl).trans (KeepL.only O2.out (by omega) (by omega) (by omega))).trans (KeepL.only O3.out (by omega) (by omega) (by omega)), fun k q1 q2 => (O3.out.block k (by omega) (by omega)).trans ((O2.out.block k (by omega) (by omega)).trans (O1.out.block k (by omega) (by omega))), ?_⟩
    refine ⟨⟨T4.out.only O3.out (by omega), N2.out.only O3.out (by omega), N3.out⟩, ?_, XO.out.v.tl⟩
    exact (((B4.out.trans (HB.out.mono B4.out.size)).trans (O1.out.below (by omega) (by omega))).trans (O2.out.below (by omega) (by omega))).trans (O3.out.below (by omega) (by omega))
  case done =>
    intro D9 B t V hD hD2 hB hf hi hd
    obtain ⟨hi1, hi2⟩ := hi
    obtain rfl : vzero = v := (noteV_none OK.out (hf.symm.trans hi1)).symm.trans hv.out
    have HB := Lib.hid hi2
    have V4 := Lib.hid (Q4.out.below hi2)
    have V5 := Lib.hid (Q5.out.below hi2)
    have V6 := Lib.hid (Q6.out.below hi2)
    have HD := Lib.hid hd
    have LD := Lib.hid hD
    clear hi1 hi2 hf hd
    refine hK0 _ _ ?_
    gi_wp2_with (first
      | (refine in_plain wide_no rfl (by intro c h; cases h) ?_; refine wpList_build rfl 26 _ rfl [] rfl _ built24z ?_; refine in_done ?_)
      | (refine in_plain wide_no rfl (by intro c h; cases h) ?_; refine wpList_store_cs rfl 26 _ _ rfl w.heap.size (nmL M.zero8) (nmL M.zero8) rfl rfl V4.out rfl (size_nmL rfl) (nm_one M.zero8) ?_; intro W1 N1 O1; have LT0 := LT.out; have U5 := Lib.hid (V5.out.only O1.out (by omega)); have U6 := Lib.hid (V6.out.only O1.out (by omega)); clear LT0; refine in_done ?_)
      | (refine in_plain wide_no rfl (by intro c h; cases h) ?_; refine wpList_store_i Try.sizeOf27 rfl _ _ rfl (w.heap.size + 1) (.int .u32 0) 0 rfl rfl U5.out ?_; intro W2 N2 O2; have LT0 := LT.out; have T4 := Lib.hid (N1.out.only O2.out (by omega)); have T6 := Lib.hid (U6.out.only O2.out (by omega)); clear LT0; refine in_done ?_)
      | (refine in_plain wide_no rfl (by intro c h; cases h) ?_; refine wpList_store_i Try.sizeOf5 rfl _ _ rfl (w.heap.size + 1 + 1) (.int .u8 0) 0 rfl rfl T6.out ?_; intro W3 N3 O3; refine in_done ?_))
    have hlt0 := LT.out
    have h1 := O1.out.size
    have h2 := O2.out.size
    have h3 := O3.out.size
    have h4 := B4.out.size
    have h5 := LD.out
    have h6 := HB.out.size
    have M4 := Lib.hid (blk_put (o := .deferred none) (i := D9) (T4.out.only O3.out (by omega)) (by omega))
    have M5 := Lib.hid (blk_put (o := .deferred none) (i := D9) (N2.out.only O3.out (by omega)) (by omega))
    have M6 := Lib.hid (blk_put (o := .deferred none) (i := D9) N3.out (by omega))
    have hDl := (Array.getElem?_eq_some_iff.1 HD.out).1
    refine marks_ret D9 rfl ((O3.out.block D9 (by omega) (by omega)).trans ((O2.out.block D9 (by omega) (by omega)).trans ((O1.out.block D9 hDl (by omega)).trans HD.out))) (results_note rfl _ _ w.heap.size (w.heap.size + 1) (w.heap.size + 1 + 1) M.zero8 0 0 rfl rfl rfl M4.out rfl M5.out M6.out) ?_
    refine ⟨rfl, below_put ((((B4.out.trans (HB.out.mono B4.out.size)).trans (O1.out.below (by omega) (by omega))).trans (O2.out.below (by omega) (by omega))).trans (O3.out.below (by omega) (by omega))) (by omega)⟩
  case stop =>
    intro D9 V hD hx hd
    have HX := Lib.hid hx
    have HD := Lib.hid hd
    have LD := Lib.hid hD
    clear hx hd
    gi_wp2_with fail
    have hlt0 := LT.out
    have h5 := LD.out
    have M4 := Lib.hid (blk_put (o := .deferred none) (i := D9) HX.out.1.1 (by omega))
    have M5 := Lib.hid (blk_put (o := .deferred none) (i := D9) HX.out.1.2.1 (by omega))
    have M6 := Lib.hid (blk_put (o := .deferred none) (i := D9) HX.out.1.2.2 (by omega))
    refine marks_ret D9 rfl HD.out (results_note rfl _ _ w.heap.size (w.heap.size + 1) (w.heap.size + 1 + 1) v.t (vnum v) (vrep v) rfl rfl rfl M4.out HX.out.2.2 M5.out M6.out) ?_
    refine ⟨rfl, below_put HX.out.2.1 (by omega)⟩
end Go.Proofs.Ytgggjhbijnndhaa
namespace Go.Proofs.Ytgggjhbijnndhaa
open Go.RowKit

set_option maxRecDepth 100000 in
theorem any1_is (k : Ky) (b : Bool) (w : World) (hk : k.Ok) (hb : Hid (anyK k = b)) :
    Calls Try.prog 36 #[.agg k.cells.toArray] w fun e w' => e = .returned (.bool b) ∧ Below w.heap.size w w' := by
  have HK := Lib.hid hk
  go_enter Try.func36, Try.ntmps36
  go_wp2_with fail
  obtain ⟨w1, ew1⟩ : ∃ w1, w1 = w.alloc (.cells k.cells.toArray 55) := ⟨_, rfl⟩
  have Q0 := Lib.hid (show Blk w1 w.heap.size 55 k.cells by rw [ew1]; exact blk_alloc w 55 k.cells)
  have B0 := Lib.hid (show Below w.heap.size w w1 by rw [ew1]; exact new_below w (.cells k.cells.toArray 55))
  have S0 := Lib.hid (below_drew (Below.refl w1.heap.size w1))
  rw [← ew1]
  clear ew1 hk
  refine wp_region_noPanic ?_
  refine wp_region_held_drew (S := fun W => Below w1.heap.size w1 W) (by kernel_rfl) S0.out (fun _ => ?_)
  refine wpAnyH_take (i := 0) (oi := { dst := some 3, op := Go.Op.load 55 (Go.Operand.tmp 1), type := 55, pos := _, after := #[], guard := none }) (v := .agg (k.cells).toArray) rfl (by kernel_rfl) (by kernel_rfl) (by kernel_rfl) (fun _ _ _ h => h) (yieldsIf_load_mid (by rfl) 55 (.tmp 1) rfl w.heap.size 0 rfl (k.cells) _ (fun W hW => (Q0.out.below hW).range) Try.underlying55 rfl (size27 HK.out.ml)) S0.out ?_
  try simp only [Act.put, List.setIfInBounds_toArray, List.set_cons_zero, List.set_cons_succ]
  refine wpAnyH_take (i := 1) (oi := { dst := some 4, op := Go.Op.fieldAddr 55 (Go.Operand.tmp 1) 1, type := 0, pos := _, after := #[], guard := none }) (v := ?_) rfl (by kernel_rfl) (by kernel_rfl) (by kernel_rfl) (fun _ _ _ h => h) (Or.inl ⟨by rfl, ?_⟩) S0.out ?_
  rotate_left
  · intro W hW; (go_simp; try with_reducible rfl)
  try simp only [Act.put, List.setIfInBounds_toArray, List.set_cons_zero, List.set_cons_succ]
  refine wpAnyH_take (i := 2) (oi := { dst := some 5, op := Go.Op.load 23 (Go.Operand.tmp 4), type := 23, pos := _, after := #[{ on := 1, ground := Go.Ground.data }], guard := none }) (v := .int .u16 k.c) rfl (by kernel_rfl) (by kernel_rfl) (by kernel_rfl) (fun _ _ _ h => h) (Or.inl ⟨by rfl, fun W hW => exec_load_i Try.underlying23 (.tmp 4) rfl w.heap.size 1 k.c rfl ((Q0.out.below hW).cell (kc1 k))⟩) S0.out ?_
  try simp only [Act.put, List.setIfInBounds_toArray, List.set_cons_zero, List.set_cons_succ]
  refine wpAnyH_ready (rs := [3]) (by kernel_rfl) (by simp) ?_
  refine AllReadyH.cons (o := { dst := some 6, op := Go.Op.call { callee := Go.Callee.value (Go.Operand.func 25), args := #[Go.Operand.tmp 5], argTypes := #[23] }, type := 55, pos := _, after := #[{ on := 2, ground := Go.Ground.data }], guard := none }) rfl (fun K hK => ?_) AllReadyH.nil
  go_simp
  refine (keyOf_is k.c _).mono ?_
  rintro e w1 ⟨rfl, b1⟩
  have S1 := Lib.hid (step_ S0.out b1)
  clear b1
  go_wp2_with fail
  refine hK.out _ _ S1.out (fun _ => ?_)
  clear hK K
  try simp only [Act.put, List.setIfInBounds_toArray, List.set_cons_zero, List.set_cons_succ]
  refine wpAnyH_take (i := 4) (oi := { dst := some 7, op := Go.Op.binOp Go.BinOp.eql 55 (Go.Operand.tmp 3) (Go.Operand.tmp 6) 55, type := 4, pos := _, after := #[{ on := 0, ground := Go.Ground.data }, { on := 3, ground := Go.Ground.data }], guard := none }) (v := .bool (decide (k = noteK k.c))) rfl (by kernel_rfl) (by kernel_rfl) (by kernel_rfl) (fun _ _ _ h => h) (Or.inl ⟨by rfl, fun W hW => exec_eq_ky (.tmp 3) (.tmp 6) 55 rfl k (noteK k.c) rfl rfl HK.out.ml (noteK_m k.c)⟩) S1.out ?_
  try simp only [Act.put, List.setIfInBounds_toArray, List.set_cons_zero, List.set_cons_succ]
  refine wpAnyH_take (i := 5) (oi := { dst := some 2, op := Go.Op.assign (Go.Operand.tmp 7), type := 4, pos := _, after := #[{ on := 4, ground := Go.Ground.data }, { on := 3, ground := Go.Ground.chain }, { on := 0, ground := Go.Ground.phase }, { on := 1, ground := Go.Ground.phase }, { on := 2, ground := Go.Ground.phase }, { on := 3, ground := Go.Ground.phase }, { on := 4, ground := Go.Ground.phase }], guard := none }) (v := ?_) rfl (by kernel_rfl) (by kernel_rfl) (by kernel_rfl) (fun _ _ _ h => h) (Or.inl ⟨by rfl, ?_⟩) S1.out ?_
  rotate_left
  · intro W hW; (go_simp; try with_reducible rfl)
  try simp only [Act.put, List.setIfInBounds_toArray, List.set_cons_zero, List.set_cons_succ]
  refine wpAnyH_done (by kernel_rfl) ?_ _
  refine NoPanic.normal ?_
  go_wp2_with fail
  go_ret
  exact ⟨by rw [← hb.out]; rfl, step_ B0.out S1.out⟩
theorem any_cond : CondK 36 #[] (fun _ => True) anyK := fun k W hk _ => any1_is k _ W hk (Lib.hid rfl)
end Go.Proofs.Ytgggjhbijnndhaa
namespace Go.Proofs.Ytgggjhbijnndhaa
open Go.RowKit Go.Shelf
attribute [local go_sem] Oper.semAt_some

theorem OwnN.ge {w : World} {B : Nat} {v : Value} {l : List Int} {i : Nat} (h : OwnN w B v l) (hi : i < B) : ∀ k, v.ownBlock = some k → k ≠ i := fun k e => by have := (h.row.lt k e).1; omega
theorem OwnN.put {w : World} {B : Nat} {v : Value} {l : List Int} {i : Nat} {o : Obj} (h : OwnN w B v l) (hn : ∀ k, v.ownBlock = some k → k ≠ i) : OwnN (w.putObj i o) B v l := h.only (only_putObj w i o) hn
theorem exec_store31 {o : Oper} {a : Act} {w : World} (x y : Operand) (ho : o.op = .store 31 x y) (g : Nat) (u : Value) (D : Option Addr) (m c : Nat) (hx : a.eval x = .pointer (some ⟨g, 0, none⟩)) (hy : a.eval y = .slice D m c) (hb : Blk w g 31 [u]) :
    (execOp a.eval o).run Try.prog w = .ok .skip (w.setCell ⟨g, 0, none⟩ (.slice D m c)) := by
  have hc := hb.cell (i := 0) rfl
  have hf := hb.frozen 0
  unfold execOp
  simp only [ho, hx, hy]
  simp [go_sem, hc, hf]
theorem wpList_store31 {ops : Array Oper} {rest : List Oper} {op : Oper} {a : Act} {w : World} {Q : Exit → Act → World → Prop} (hgd : op.guard = none) (x y : Operand) (ho : op.op = .store 31 x y) (g : Nat) (u : Value) (D : Option Addr) (m c : Nat) (hx : a.eval x = .pointer (some ⟨g, 0, none⟩)) (hy : a.eval y = .slice D m c) (hb : Blk w g 31 [u])
    (h : ∀ w', Hid (Blk w' g 31 [.slice D m c]) → Hid (Only g w w') → wpList Try.prog ops Q rest (a.put op.dst undef) w') : wpList Try.prog ops Q (op :: rest) a w := by
  refine wpList_plain hgd fun K hK => ?_
  unfold Oper.wp
  rw [exec_store31 x y ho g u D m c hx hy hb]
  exact hK _ _ (h _ (Lib.hid (hb.set 0 (.slice D m c))) (Lib.hid (Only.set g 0 w (.slice D m c))))
def csL (s : List Am) : List Int := s.map (·.k.c)
theorem csL_len (s : List Am) : (csL s).length = s.length := List.length_map ..
theorem csL_snoc (s : List Am) (x : Am) : csL (s ++ [x]) = csL s ++ [x.k.c] := List.map_append ..
theorem csL_any {a : List Am} (h : OkR a) : csL (selK anyK (norm a)) = notes a := (notes_eq h).symm
/-- What a round finds and leaves. -/
def AW (g2 : Nat) (w0 : World) (B : Nat) (pre : List Am) (V : World) : Prop := ∃ D m c, Blk V g2 31 [.slice D m c] ∧ OwnN V B (.slice D m c) (csL pre) ∧ Below g2 w0 V
/-- The call answers a row of carts of its own. -/
def GivesC (w : World) (L : List Int) (e : Ending) (w' : World) : Prop := (∃ v, e = .returned v ∧ OwnN w' w.heap.size v L) ∧ Below w.heap.size w w'
set_option maxRecDepth 100000 in
set_option maxHeartbeats 8000000 in
theorem carts_is (A : Option Addr) (n cap : Nat) (a : List Am) (L : List Int) (w : World) (h : RowV w A n cap a) (hn : n ≤ 600) (hL : Hid (notes a = L)) : Calls Try.prog 10 #[.slice A n cap] w (GivesC w L) := by
  have OK := Lib.hid h.ok
  have ST := Lib.hid (norm_st h.ok)
  have NL := Lib.hid (show (norm a).length ≤ 600 by have := norm_len a; have := h.len; omega)
  have Q0 := Lib.hid (blk_alloc w 31 [.slice none 0 0])
  have B0 := Lib.hid (new_below w (.cells #[.slice none 0 0] 31))
  have H := Lib.hid h
  clear h
  refine (callsIn_wide (n := 10)).1 ?_
  refine callsIn_of_wp_marks Try.func10 rfl trivial ?_ rfl
  simp only [Try.ntmps10, List.size_toArray, List.length_cons, List.length_nil, Nat.reduceAdd, Nat.reduceSub, Array.replicate_succ, Array.replicate_zero, List.push_toArray, List.append_toArray, List.nil_append, List.cons_append]
  gi_wp2_with fail
  refine ⟨trivial, (callsIn_wide.2 (ofAny_is _)).mono ?_⟩
  rintro e w1 ⟨rfl, rfl⟩
  gi_wp2_with fail
  refine ⟨trivial, (callsIn_wide.2 (pickN_is A n cap _ _ _)).mono ?_⟩
  rintro e w4 ⟨⟨gd, ge, rfl, k5, k6, l5, l6⟩, b4⟩
  have GD := Lib.hid (show w.heap.size < gd ∧ w.heap.size < ge by have := Q0.out.lt; omega)
  have GL := Lib.hid (show gd < w4.heap.size ∧ ge < w4.heap.size from ⟨k5.lt, k6.lt⟩)
  have K5 := Lib.hid k5
  have K6 := Lib.hid k6
  have B4 := Lib.hid (step_ B0.out b4)
  have Q4 := Lib.hid (Q0.out.below b4)
  have LT := Lib.hid (show w.heap.size < w4.heap.size from Q4.out.lt)
  clear k5 k6 b4 l5 l6 Q0 B0
  gi_wp2_with fail
  rename_i K0 hK0
  refine range_gen (gf := 32) rfl (fun _ _ => rfl) (pickN_seq 36 _ (fun _ _ => rfl) _ _ any_cond (fun V V' h hb => trivial) _ _ A n cap a hn) (fun _ => rfl)
    (fun B pre V => AW w.heap.size w B pre V ∧ Blk V gd 22 [.slice A n cap] ∧ Blk V ge 52 [.func (.func 36) #[] #[]])
    (fun V => False)
    (fun B pre V V' h hb => by obtain ⟨⟨D, m, c, h1, h2, h3⟩, h5⟩ := h; exact ⟨⟨D, m, c, h1.below hb, h2.below hb, h3.trans (hb.mono h3.size)⟩, h5.1.below hb, h5.2.below hb⟩)
    ?io ?ip
    (fun V o h => h.elim)
    (fun V V' g h _ _ => h.elim)
    (fun B pre V h => by obtain ⟨⟨D, m, c, h1, h2, h3⟩, h5⟩ := h; exact ⟨⟨h5.1, H.out.below h3⟩, h5.2, trivial⟩)
    (fun V hb => ⟨⟨K5.out.below hb, H.out.below (B4.out.trans (hb.mono B4.out.size))⟩, K6.out.below hb, trivial⟩)
    ?i0
    (fun B pre x a' V => x.k.Ok ∧ pre.length < 1000 ∧ ∃ g5, a' = { tmps := #[.slice A n cap, undef, .slice none 0 0, .pointer (some ⟨w.heap.size, 0, none⟩), .pointer (some ⟨g5, 0, none⟩), .slice A n cap, .func (.func 36) #[] #[], .func (.func 32) #[] #[.pointer (some ⟨gd, 0, none⟩), .pointer (some ⟨ge, 0, none⟩)], .agg x.k.cells.toArray, .agg x.v.cells.toArray, undef, undef, undef, undef, undef, undef], defers := [] } ∧ B ≤ g5 ∧ Blk V g5 55 x.k.cells ∧ AW w.heap.size w B pre V ∧ Blk V gd 22 [.slice A n cap] ∧ Blk V ge 52 [.func (.func 36) #[] #[]])
    ?ap ?assign ?body ?done ?stop
  case io =>
    intro B pre V V' h9 h ho hg hB
    obtain ⟨⟨D, m, c, h1, h2, h3⟩, h5⟩ := h
    have hl := LT.out
    exact ⟨⟨D, m, c, h1.only ho (by omega), h2.only ho (h2.ge hB), h3.trans (ho.below (by omega) h3.size)⟩, h5.1.only ho (by have := GL.out; omega), h5.2.only ho (by have := GL.out; omega)⟩
  case ip =>
    intro B pre V o hB h
    obtain ⟨⟨D, m, c, h1, h2, h3⟩, h5⟩ := h
    have hl := LT.out
    exact ⟨⟨D, m, c, blk_put h1 (by omega), h2.put (h2.ge (by omega)), below_put h3 (by omega)⟩, blk_put h5.1 (by have := GL.out; omega), blk_put h5.2 (by have := GL.out; omega)⟩
  case i0 =>
    intro B V hB hV hb
    exact ⟨⟨none, 0, 0, Q4.out.below hb, ownN_nil _ _, B4.out.trans (hb.mono B4.out.size)⟩, K5.out.below hb, K6.out.below hb⟩
  case ap =>
    intro B pre x a' V o hB h
    obtain ⟨hx, hm, g5, e, l5, k5, ⟨D, m, c, h1, h2, h3⟩, h5⟩ := h
    have hl := LT.out
    exact ⟨hx, hm, g5, e, l5, blk_put k5 (by omega), ⟨D, m, c, blk_put h1 (by omega), h2.put (h2.ge (by omega)), below_put h3 (by omega)⟩, blk_put h5.1 (by have := GL.out; omega), blk_put h5.2 (by have := GL.out; omega)⟩
  case assign =>
    intro l B pre x V K hnx hi hB hB2 hlt hK
    have XN := Lib.hid (show x ∈ selK anyK (norm a) ∧ pre.length < 1000 by
      obtain ⟨rest, e⟩ := hnx
      have h1 : (selK anyK (norm a)).length ≤ (norm a).length := List.length_filter_le ..
      have h2 := NL.out
      rw [e, List.length_append, List.length_cons] at h1
      exact ⟨by rw [e]; simp, by omega⟩)
    have XO := Lib.hid (ST.out.ok x (List.mem_filter.1 XN.out.1).1).k
    have HI := Lib.hid hi
    have Z1 := Lib.hid (blk_alloc V 55 kzero.cells)
    have hz := zero27
    clear hi hnx
    simp only [encP, List.zip_toArray, List.zip_cons_cons, List.zip_nil_right, List.foldl_toArray', List.foldl_cons, List.foldl_nil, List.size_toArray, List.length_cons, List.length_nil, List.setIfInBounds_toArray, List.set_cons_zero, List.set_cons_succ]
    gi_wp2_with (first
      | (refine in_plain (wide_in l) rfl (by intro c h; cases h) ?_; refine wpList_store_ky rfl _ _ rfl V.heap.size kzero x.k rfl rfl Z1.out kzero_ok.ml XO.out.ml ?_; intro V1 N1 O1; refine in_done ?_))
    have QQ := box_below O1.out
    obtain ⟨⟨D, m, c, h1, h2, h3⟩, h5⟩ := HI.out
    exact hK _ _ QQ ⟨XO.out, XN.out.2, _, rfl, hB2, N1.out, ⟨D, m, c, h1.below QQ, h2.below QQ, h3.trans (QQ.mono h3.size)⟩, h5.1.below QQ, h5.2.below QQ⟩
  case body =>
    intro l B pre x a' V hnx hax hB hB2 hlt
    obtain ⟨hx, hm, g5, rfl, l5, k5, ⟨D, m, c, h1, h2, h3⟩, h5⟩ := hax
    have XO := Lib.hid hx
    have XC := Lib.hid (show 0 ≤ x.k.c ∧ x.k.c < 65536 from ⟨hx.c0, hx.c1⟩)
    have G5 := Lib.hid k5
    have H1 := Lib.hid h1
    have H2 := Lib.hid h2
    have H3 := Lib.hid h3
    have H5 := Lib.hid h5
    have LB := Lib.hid (show w.heap.size + 2 ≤ B ∧ w4.heap.size + 2 ≤ B by have := LT.out; omega)
    have LB2 := Lib.hid hB2
    have HLT := Lib.hid hlt
    have PL := Lib.hid (show (csL pre).length + [x.k.c].length ≤ 30000 by rw [csL_len]; simp; omega)
    have c0 := h1.cell (i := 0) rfl
    have c5 := k5.cell (kc1 x.k)
    clear hx k5 h1 h2 h3 hB hB2 hm h5 hlt hnx
    gi_wp2_with (first
      | (refine in_plain (wide_in l) rfl (by intro c h; cases h) ?_; refine wpList_num1 Try.underlying31 rfl _ rfl x.k.c rfl XC.out ?_; intro g6 w6 e6 N6 B6; refine in_done ?_)
      | (refine in_plain (wide_in l) rfl (by intro c h; cases h) ?_; refine wpList_app_n Try.underlying31 rfl _ _ rfl B (.slice D m c) (.slice (some ⟨g6, 0, none⟩) 1 1) (csL pre) [x.k.c] rfl rfl (H2.out.below B6.out) N6.out PL.out (Nat.le_trans LB2.out B6.out.size) ?_; intro D7 m7 c7 w7 e7 O7 B7 G7; refine in_done ?_)
      | (refine in_plain (wide_in l) rfl (by intro c h; cases h) ?_; refine wpList_store31 rfl _ _ rfl w.heap.size (.slice D m c) D7 m7 c7 rfl rfl ((H1.out.below B6.out).upto B7.out (by have := LB.out; omega)) ?_; intro w8 N8 O8; refine in_done ?_))
    have BW := Lib.hid (show Below B V w7 from (B6.out.mono LB2.out).trans B7.out)
    have hlb := LB.out
    have hl := LT.out
    have hbw := BW.out.size
    have hlb2 := LB2.out
    have h8 := O8.out.size
    have hlt := HLT.out
    have hgd := GD.out
    have hgl := GL.out
    refine ⟨?_, fun k hk1 hk2 => ?_, ⟨D7, m7, c7, N8.out, ?_, ?_⟩, ?_, ?_⟩
    · exact (KeepL.below BW.out (by omega)).trans (KeepL.only O8.out (by omega) (by omega) (by omega))
    · exact (O8.out.block k (by omega) (by omega)).trans (BW.out.block k hk2)
    · rw [csL_snoc]; exact O7.out.only O8.out (O7.out.ge (by omega))
    · exact (H3.out.trans (BW.out.mono (by omega))).trans (O8.out.below (Nat.le_refl _) (by omega))
    · exact (H5.out.1.upto BW.out (by omega)).only O8.out (by omega)
    · exact (H5.out.2.upto BW.out (by omega)).only O8.out (by omega)
  case done =>
    intro D9 B s V hD hD2 hB hf hi hd
    obtain ⟨⟨D1, m1, c1, h1, h2, h3⟩, h5⟩ := hi
    subst hf
    have OW := Lib.hid h2
    have H3 := Lib.hid h3
    have c0 := h1.cell (i := 0) rfl
    have HD := Lib.hid hd
    have LD := Lib.hid (show w.heap.size ≤ D9 ∧ D9 < B ∧ w.heap.size ≤ B by have := LT.out; omega)
    clear hd h1 h2 h3 h5
    refine hK0 _ _ ?_
    gi_wp2_with fail
    refine marks_ret D9 rfl HD.out (results_tmp rfl _ _ _) ?_
    have hl := LD.out
    refine ⟨⟨_, rfl, ?_⟩, below_put H3.out (by omega)⟩
    rw [← hL.out, ← csL_any OK.out]
    exact (OW.out.down (by omega)).put (OW.out.ge (by omega))
  case stop =>
    intro D V hD hx hd
    exact hx.elim
end Go.Proofs.Ytgggjhbijnndhaa
