/- The key of a note and the conditions of package note as function values; the iterator over the atoms whose keys meet one: its closure is made. The iterator over the atoms whose keys meet a condition: what it hands over. Written by wip/tools/npick_r16.py. Loads of whole numbers out of any cell, boxes of rows of cells. Steps of the reference's regions: quotients, conversions, whole rows of cells stored in a region that draws its order. -/
import Derived.Test.YtijfbhdbfplghaaGreatH11
import Derived.Test.YtijfbhdbfplghaaGreatH19
import Derived.Test.YtijfbhdbfplghaaGreatH09
import Derived.Test.YtijfbhdbfplghaaGreatH14
import Derived.Test.YtijfbhdbfplghaaGreatH25
import Derived.Test.YtijfbhdbfplghaaGreatH17
import Derived.Test.YtijfbhdbfplghaaGreatH24
namespace Go.Proofs.YtijfbhdbfplghaaGreat
open Go.RowKit
theorem built_nk (c : Int) : Tryz.prog.built 53 [(0, .int .u8 4), (1, .int .u16 c)] = some (noteK c).cells.toArray := by kernel_rfl
theorem noteK_m (c : Int) : (noteK c).m.length = 8 := rfl
set_option maxRecDepth 100000 in
theorem keyOf_is (c : Int) (w : World) : Calls Tryz.prog 82 #[.int .u16 c] w fun e w' => e = .returned (.agg (noteK c).cells.toArray) ∧ Below w.heap.size w w' := by
  have hz := zero27
  have K0 := Lib.hid (blk_alloc w 53 kzero.cells)
  have B0 := Lib.hid (new_below w (.cells kzero.cells.toArray 53))
  go_enter Tryz.func82, Tryz.ntmps82
  go_wp2_with (first
    | (refine wpList_build rfl 53 _ rfl [(0, .int .u8 4), (1, .int .u16 c)] rfl _ (built_nk c) ?_)
    | (refine wpList_store_ky rfl _ _ rfl w.heap.size kzero (noteK c) rfl rfl K0.out rfl (noteK_m c) ?_; intro w1 N1 O1))
  refine bodyPost_ret (results_ky rfl _ _ w.heap.size _ rfl N1.out (noteK_m c)) rfl ?_
  exact ⟨rfl, B0.out.trans (O1.out.below (Nat.le_refl _) B0.out.size)⟩
def ofK (c : Int) : Ky → Bool := fun k => decide (k = noteK c)
/-- A condition as a function value: it answers p, and makes memory. -/
def CondK (gf : Nat) (lb : Array Value) (N : World → Prop) (p : Ky → Bool) : Prop :=
  ∀ (k : Ky) (W : World), k.Ok → N W → Calls Tryz.prog gf (#[.agg k.cells.toArray] ++ lb) W fun e W' => e = .returned (.bool (p k)) ∧ Below W.heap.size W W'
set_option maxRecDepth 100000 in
theorem of1_is (c : Int) (hc : 0 ≤ c ∧ c < 65536) (g2 : Nat) (k : Ky) (b : Bool) (w : World) (hk : k.Ok) (h2 : Blk w g2 53 (noteK c).cells) (hb : Hid (ofK c k = b)) :
    Calls Tryz.prog 83 #[.agg k.cells.toArray, .pointer (some ⟨g2, 0, none⟩)] w fun e w' => e = .returned (.bool b) ∧ Below w.heap.size w w' := by
  have B0 := Lib.hid (new_below w (.cells k.cells.toArray 53))
  have R1 := Lib.hid (blk_alloc w 53 k.cells).range
  have R2 := Lib.hid (h2.alloc (.cells k.cells.toArray 53)).range
  have HK := Lib.hid hk
  have NO := Lib.hid (noteK_ok hc)
  clear h2 hk
  go_enter Tryz.func83, Tryz.ntmps83
  go_wp2_with (first
    | (refine wpList_load_ky rfl _ rfl w.heap.size 0 k rfl R1.out HK.out.ml ?_)
    | (refine wpList_load_ky rfl _ rfl g2 0 (noteK c) rfl R2.out (noteK_m c) ?_)
    | (refine wpList_eq_ky rfl _ _ _ rfl k (noteK c) b rfl rfl HK.out NO.out hb.out ?_))
  go_ret
  exact ⟨rfl, B0.out⟩
theorem of_cond (c : Int) (hc : 0 ≤ c ∧ c < 65536) (g2 : Nat) : CondK 83 #[.pointer (some ⟨g2, 0, none⟩)] (fun V => Blk V g2 53 (noteK c).cells) (ofK c) :=
  fun k W hk h => of1_is c hc g2 k _ W hk h (Lib.hid rfl)
set_option maxRecDepth 100000 in
theorem of_is (c : Int) (w : World) : Calls Tryz.prog 65 #[.int .u16 c] w fun e w' => (∃ g, e = .returned (.func (.func 83) #[] #[.pointer (some ⟨g, 0, none⟩)]) ∧ Blk w' g 53 (noteK c).cells ∧ w.heap.size ≤ g) ∧ Below w.heap.size w w' := by
  have hz := zero27
  go_enter Tryz.func65, Tryz.ntmps65
  go_wp2_with fail
  refine (keyOf_is c w).mono ?_
  rintro e w1 ⟨rfl, b1⟩
  have B1 := Lib.hid b1
  have K0 := Lib.hid (blk_alloc w1 53 kzero.cells)
  have B2 := Lib.hid (step_ b1 (new_below w1 (.cells kzero.cells.toArray 53)))
  clear b1
  go_wp2_with (refine wpList_store_ky rfl _ _ rfl w1.heap.size kzero (noteK c) rfl rfl K0.out rfl (noteK_m c) ?_; intro w2 N2 O2)
  go_ret
  exact ⟨⟨w1.heap.size, rfl, N2.out, B1.out.size⟩, B2.out.trans (O2.out.below B1.out.size B2.out.size)⟩
set_option maxRecDepth 100000 in
theorem pickN_is (A : Option Addr) (n cap : Nat) (gf : Nat) (lb : Array Value) (w : World) : Calls Tryz.prog 64 #[.slice A n cap, .func (.func gf) #[] lb] w fun e w' => (∃ g h, e = .returned (.func (.func 81) #[] #[.pointer (some ⟨g, 0, none⟩), .pointer (some ⟨h, 0, none⟩)]) ∧ Blk w' g 22 [.slice A n cap] ∧ Blk w' h 109 [.func (.func gf) #[] lb] ∧ w.heap.size ≤ g ∧ w.heap.size ≤ h) ∧ Below w.heap.size w w' := by
  go_enter Tryz.func64, Tryz.ntmps64
  go_wp2_with fail
  go_ret
  exact ⟨⟨w.heap.size, w.heap.size + 1, by simp, (blk_alloc w 22 [.slice A n cap]).alloc _, blk2 w (.cells #[.slice A n cap] 22) 109 [.func (.func gf) #[] lb], Nat.le_refl _, Nat.le_add_right _ _⟩, step_ (new_below w _) (new_below _ _)⟩
end Go.Proofs.YtijfbhdbfplghaaGreat
namespace Go.Proofs.YtijfbhdbfplghaaGreat
open Go.RowKit Go.Shelf
attribute [local go_sem] Oper.semAt_some
def selK (p : Ky → Bool) (s : List Am) : List Am := s.filter fun x => p x.k
theorem selK_snoc (p : Ky → Bool) (s : List Am) (x : Am) : selK p (s ++ [x]) = if p x.k = true then selK p s ++ [x] else selK p s := by
  unfold selK
  rw [List.filter_append]
  split
  · rename_i h; simp [h]
  · rename_i h; simp [h]
theorem selK_nx {p : Ky → Bool} {s pre rest : List Am} {x : Am} (hs : s = pre ++ x :: rest) (hx : p x.k = true) : NxA (selK p s) (selK p pre) x := by
  refine ⟨selK p rest, ?_⟩
  unfold selK
  rw [hs, List.filter_append]
  simp [hx]
set_option maxRecDepth 100000 in
set_option maxHeartbeats 8000000 in
theorem pickN_seq (gf : Nat) (lb : Array Value) (eg : ∀ args w, (callFunc gf args).run Tryz.prog w = .ok (.enter gf args) w) (NC : World → Prop) (p : Ky → Bool) (hc : CondK gf lb NC p) (hNb : ∀ V V', NC V → Below V.heap.size V V' → NC V')
    (g2 g3 : Nat) (A : Option Addr) (n cap : Nat) (a : List Am) (hn : n ≤ 600) :
    SeqGen 81 #[.pointer (some ⟨g2, 0, none⟩), .pointer (some ⟨g3, 0, none⟩)] (fun V => (Blk V g2 22 [.slice A n cap] ∧ RowV V A n cap a) ∧ Blk V g3 109 [.func (.func gf) #[] lb] ∧ NC V) encP (NxA (selK p (norm a))) (fun t => t = selK p (norm a)) := by
  intro l J X W hJb hJo hJn hXo hY hN0 h0
  have c0 := (hN0.1.1.alloc (.cells #[.func (.yield l) #[] #[]] 88)).cell (i := 0) rfl
  have R0 := Lib.hid (hN0.1.2.below (new_below W (.cells #[.func (.yield l) #[] #[]] 88)))
  have Q0 := Lib.hid (blk_alloc W 88 [.func (.yield l) #[] #[]])
  have B0 := Lib.hid (new_below W (.cells #[.func (.yield l) #[] #[]] 88))
  have HC := Lib.hid hc
  have HNB := Lib.hid hNb
  have JB := Lib.hid hJb
  have JO := Lib.hid hJo
  have XO' := Lib.hid hXo
  have JN := Lib.hid hJn
  have HY := Lib.hid hY
  have H0 := Lib.hid h0
  clear hJb hJo hJn hXo hY hN0 h0 hc hNb
  refine (callsIn_wide (n := 10)).1 ?_
  refine callsIn_of_wp_marks Tryz.func81 rfl trivial ?_ rfl
  simp only [Tryz.ntmps81, List.size_toArray, List.length_cons, List.length_nil, Nat.reduceAdd, Nat.reduceSub, Array.replicate_succ, Array.replicate_zero, List.push_toArray, List.append_toArray, List.nil_append, List.cons_append]
  gi_wp2_with fail
  refine ⟨trivial, (callsIn_wide.2 (each_isO A n cap a _ R0.out hn)).mono ?_⟩
  rintro e w2 ⟨⟨Bs, D, m1, c1, rfl, lbs, k1, r1, f1⟩, b1⟩
  have K1 := Lib.hid k1
  have R1 := Lib.hid r1
  have F1 := Lib.hid (show ∀ G off, D = some ⟨G, off, none⟩ → W.heap.size ≤ G from fun G off e => Nat.le_trans B0.out.size (f1 G off e))
  have Q1 := Lib.hid (Q0.out.below b1)
  have B1 := Lib.hid (step_ B0.out b1)
  have LBS := Lib.hid (show W.heap.size ≤ Bs by have := B0.out.size; omega)
  have hm1 : m1 ≤ 1000 := by have := norm_len a; rw [r1.len, R0.out.len] at this; omega
  have ST := Lib.hid (norm_st R0.out.ok)
  clear k1 r1 b1 lbs f1 R0 Q0 B0 c0
  gi_wp2_with fail
  rename_i K0
  obtain ⟨s, hs⟩ : ∃ s, norm a = s := ⟨_, rfl⟩
  rw [hs] at R1 ST HY
  have NE := Lib.hid hs
  clear hs
  refine range_gen (gf := 75) (lb := #[.pointer (some ⟨Bs, 0, none⟩)]) rfl (fun _ _ => rfl) (each_gen Bs D m1 c1 s hm1) (fun _ => rfl)
    (fun B pre V => J B (selK p pre) V ∧ Own2 W.heap.size w2 V ∧ B ≤ V.heap.size)
    (fun V => X V)
    (fun B pre V V' h hb => ⟨JB.out _ _ _ _ h.1 hb, h.2.1.below hb, Nat.le_trans h.2.2 hb.size⟩)
    (fun B pre V V' h9 h ho hg hB => ⟨JO.out _ _ _ _ _ h.1 ho (by have := B1.out.size; omega) hB, h.2.1.only ho (by omega), Nat.le_trans h.2.2 ho.size⟩)
    (fun B pre V o hB h => ⟨JO.out _ _ _ _ _ h.1 (only_putObj _ _ _) (by have := B1.out.size; omega) (by omega), h.2.1.put (by omega), by simpa using h.2.2⟩)
    (fun V o h => XO'.out _ _ _ h (only_putObj _ _ _) (by have := B1.out.size; omega))
    (fun V V' g h ho hg => XO'.out _ _ _ h ho (by have := B1.out.size; omega))
    (fun B pre V h => ⟨h.2.1.blk K1.out LBS.out, rowV_seg R1.out F1.out h.2.1.same h.2.1.size⟩)
    (fun V hb => ⟨K1.out.below hb, R1.out.below hb⟩)
    (fun B V hB hV hb => ⟨H0.out _ _ (by have := B1.out.size; omega) hV (step_ B1.out hb), ⟨fun k _ h2 => hb.block k h2, hb.size⟩, hV⟩)
    (fun B pre x a' V => ∃ g4 g5, a' = { tmps := #[.func (.yield l) #[] #[], .pointer (some ⟨g2, 0, none⟩), .pointer (some ⟨g3, 0, none⟩), .pointer (some ⟨W.heap.size, 0, none⟩), .pointer (some ⟨g4, 0, none⟩), .pointer (some ⟨g5, 0, none⟩), .slice A n cap, .func (.func 75) #[] #[.pointer (some ⟨Bs, 0, none⟩)], .agg x.k.cells.toArray, .agg x.v.cells.toArray, undef, undef, undef, undef, undef, undef, undef, undef, undef, undef], defers := [] } ∧ B ≤ g4 ∧ B ≤ g5 ∧ Blk V g4 53 x.k.cells ∧ Blk V g5 56 x.v.cells ∧ J B (selK p pre) V ∧ Own2 W.heap.size w2 V ∧ B ≤ V.heap.size)
    (fun B pre x a' V o hB h => by
      obtain ⟨g4, g5, e, l4, l5, k4, k5, hj, ho, hv⟩ := h
      exact ⟨g4, g5, e, l4, l5, blk_put k4 (by omega), blk_put k5 (by omega), JO.out _ _ _ _ _ hj (only_putObj _ _ _) (by have := B1.out.size; omega) (by omega), ho.put (by omega), by simpa using hv⟩)
    ?assign ?body ?done ?stop
  case assign =>
    intro l2 B pre x V K hnx hi hB hB2 hlt hK
    have XO := Lib.hid (ST.out.ok x (by obtain ⟨rest, e⟩ := hnx; rw [e]; simp))
    have HI := Lib.hid hi
    have Z1 := Lib.hid (blk_alloc V 53 kzero.cells)
    have hz := zero27
    have hz2 := zero30
    clear hi hnx
    simp only [encP, List.zip_toArray, List.zip_cons_cons, List.zip_nil_right, List.foldl_toArray', List.foldl_cons, List.foldl_nil, List.size_toArray, List.length_cons, List.length_nil, List.setIfInBounds_toArray, List.set_cons_zero, List.set_cons_succ]
    gi_wp2_with (first
      | (refine in_plain (wide_in l2) rfl (by intro c h; cases h) ?_; refine wpList_store_ky rfl _ _ rfl V.heap.size kzero x.k rfl rfl Z1.out kzero_ok.ml XO.out.k.ml ?_; intro V1 N1 O1; have Z2 := Lib.hid (blk_alloc V1 56 vzero.cells); have BV := Lib.hid (box_below O1.out); refine in_done ?_)
      | (refine in_plain (wide_in l2) rfl (by intro c h; cases h) ?_; refine wpList_store_vl rfl _ _ rfl V1.heap.size vzero x.v rfl rfl Z2.out rfl XO.out.v.tl ?_; intro V2 N2 O2; refine in_done ?_))
    have QQ := box_below O2.out
    have Q3 := step_ BV.out QQ
    obtain ⟨h1, h2, h3⟩ := HI.out
    exact hK _ _ Q3 ⟨_, _, rfl, hB2, Nat.le_trans hB2 BV.out.size, N1.out.below QQ, N2.out, JB.out _ _ _ _ h1 Q3, h2.below Q3, Nat.le_trans h3 Q3.size⟩
  case body =>
    intro l2 B pre x a' V hnx hax hB hB2 hlt
    obtain ⟨g4, g5, rfl, l4, l5, k4, k5, hj, ho, hv⟩ := hax
    have XO := Lib.hid (ST.out.ok x (by obtain ⟨rest, e⟩ := hnx; rw [e]; simp))
    have NX := Lib.hid hnx
    have G4 := Lib.hid k4
    have G5 := Lib.hid k5
    have JJ := Lib.hid hj
    have OW := Lib.hid ho
    have HB := Lib.hid hB2
    have HBB := Lib.hid hB
    have B1S := Lib.hid B1.out.size
    have L4 := Lib.hid l4
    have L5 := Lib.hid l5
    have SN := Lib.hid (selK_snoc p pre x)
    have Y3 := Lib.hid (ho.blk Q1.out (Nat.le_refl _))
    have NN := Lib.hid (JN.out _ _ _ hj).2
    have c2 := NN.out.1.cell (i := 0) rfl
    have c3 := Y3.out.cell (i := 0) rfl
    clear k4 k5 hj ho hnx hv hB hB2 l4 l5
    cases hp : p x.k with
    | false =>
      have PN := Lib.hid (show selK p (pre ++ [x]) = selK p pre by rw [SN.out, if_neg (by simp [hp])])
      have HP := Lib.hid hp
      clear hp
      gi_wp2_with (first
        | (refine in_skip (wide_in l2) rfl ?_)
        | (refine in_want rfl ?_; refine in_plain (wide_in l2) rfl (by intro c h; cases h) ?_; refine wpList_load_ky rfl _ rfl g4 0 x.k rfl G4.out.range XO.out.k.ml ?_; refine in_done ?_)
        | (refine in_want rfl ?_; refine in_plain (wide_in l2) rfl (by intro c h; cases h) ?_; refine wpList_load_vl rfl _ rfl g5 0 x.v rfl G5.out.range XO.out.v.tl ?_; refine in_done ?_))
      refine ⟨trivial, (calls_in (wide_in l2) (HC.out x.k V XO.out.k NN.out.2)).mono ?_⟩
      rw [HP.out]
      rintro e W3 ⟨rfl, b3⟩
      have B3 := Lib.hid b3
      clear b3
      gi_wp2_with (refine in_skip (wide_in l2) rfl ?_)
      refine ⟨KeepL.below B3.out hlt, fun k _ h2 => B3.out.block k (Nat.lt_of_lt_of_le h2 HB.out), ?_⟩
      rw [PN.out]
      exact ⟨JB.out _ _ _ _ JJ.out B3.out, OW.out.below B3.out, Nat.le_trans HB.out B3.out.size⟩
    | true =>
      have PN := Lib.hid (show selK p (pre ++ [x]) = selK p pre ++ [x] by rw [SN.out, if_pos hp])
      have NXK := Lib.hid (show NxA (selK p s) (selK p pre) x by obtain ⟨rest, e⟩ := NX.out; exact selK_nx e hp)
      have HP := Lib.hid hp
      clear hp
      gi_wp2_with (first
        | (refine in_skip (wide_in l2) rfl ?_)
        | (refine in_want rfl ?_; refine in_plain (wide_in l2) rfl (by intro c h; cases h) ?_; refine wpList_load_ky rfl _ rfl g4 0 x.k rfl G4.out.range XO.out.k.ml ?_; refine in_done ?_)
        | (refine in_want rfl ?_; refine in_plain (wide_in l2) rfl (by intro c h; cases h) ?_; refine wpList_load_vl rfl _ rfl g5 0 x.v rfl G5.out.range XO.out.v.tl ?_; refine in_done ?_))
      refine ⟨trivial, (calls_in (wide_in l2) (HC.out x.k V XO.out.k NN.out.2)).mono ?_⟩
      rw [HP.out]
      rintro e W3 ⟨rfl, b3⟩
      have B3 := Lib.hid b3
      have G43 := Lib.hid (G4.out.below b3)
      have G53 := Lib.hid (G5.out.below b3)
      have c4 := (Y3.out.below b3).cell (i := 0) rfl
      obtain ⟨fn, tmps, assign, body, hy, hR⟩ := yield_any (HY.out B (selK p pre) x W3 NXK.out (JB.out _ _ _ _ JJ.out b3) (Nat.le_trans (Nat.le_trans B1S.out (Nat.le_add_right _ 2)) HBB.out) (Nat.le_trans HB.out b3.size)) 8 (some l2)
      clear b3
      gi_wp2_with (first
        | (refine in_skip (wide_in l2) rfl ?_)
        | (refine in_want rfl ?_; refine in_plain (wide_in l2) rfl (by intro c h; cases h) ?_; refine wpList_load_ky rfl _ rfl g4 0 x.k rfl G43.out.range XO.out.k.ml ?_; refine in_done ?_)
          | (refine in_want rfl ?_; refine in_plain (wide_in l2) rfl (by intro c h; cases h) ?_; refine wpList_load_vl rfl _ rfl g5 0 x.v rfl G53.out.range XO.out.v.tl ?_; refine in_done ?_))
      refine hR.mono ?_
      rintro e W4 ⟨hs4, hk4, (⟨rfl, hJ4⟩ | ⟨rfl, hX4⟩)⟩
      · have J4 := Lib.hid hJ4
        have S4 := Lib.hid hs4
        have K4 := Lib.hid hk4
        clear hJ4 hs4 hk4 hR hy
        gi_wp2_with (refine in_skip (wide_in l2) rfl ?_)
        have hB0 := HBB.out
        have hB1 := B1S.out
        have hz3 := B3.out.size
        have hz4 := S4.out
        have hz5 := HB.out
        refine ⟨⟨by omega, ?_, ?_⟩, fun k h1 h2 => (K4.out k (by omega) h2).trans (B3.out.block k (by omega)), ?_, ⟨fun k h1 h2 => ?_, ?_⟩, by omega⟩
        · exact (K4.out _ (by omega) (by omega)).trans (B3.out.block _ (by omega))
        · exact (K4.out _ (by omega) (by omega)).trans (B3.out.block _ (by omega))
        · rw [PN.out]; exact J4.out
        · exact (K4.out _ h1 (by omega)).trans ((B3.out.block _ (by omega)).trans (OW.out.same k h1 h2))
        · omega
      · have X4 := Lib.hid hX4
        have S4 := Lib.hid hs4
        have K4 := Lib.hid hk4
        clear hX4 hs4 hk4 hR hy
        gi_wp2_with (refine in_skip (wide_in l2) rfl ?_)
        have hB0 := HBB.out
        have hB1 := B1S.out
        have hz3 := B3.out.size
        have hz4 := S4.out
        have hz5 := HB.out
        refine ⟨⟨by omega, ?_, ?_⟩, fun k h1 h2 => (K4.out k (by omega) h2).trans (B3.out.block k (by omega)), X4.out⟩
        · exact (K4.out _ (by omega) (by omega)).trans (B3.out.block _ (by omega))
        · exact (K4.out _ (by omega) (by omega)).trans (B3.out.block _ (by omega))
  case done =>
    intro D9 B t V hD hD2 hB hf hi hd
    subst hf
    have JJ := Lib.hid hi.1
    have HD := Lib.hid hd
    have LD := Lib.hid (show W.heap.size ≤ D9 ∧ D9 < B by have := B1.out.size; omega)
    clear hi hd HY
    show bodyPostM Fence.wide 10 Tryz.prog Tryz.f81 _ .ret _ V
    refine marks_ret D9 rfl HD.out (results_none rfl _ _ _) ?_
    exact ⟨⟨_, rfl⟩, .inl ⟨_, B, by rw [NE.out], JO.out _ _ _ _ _ JJ.out (only_putObj _ _ _) LD.out.1 LD.out.2⟩⟩
  case stop =>
    intro D9 V hD hx hd
    have HX := Lib.hid hx
    have HD := Lib.hid hd
    clear hx hd HY
    gi_wp2_with fail
    refine marks_ret D9 rfl HD.out (results_none rfl _ _ _) ?_
    exact ⟨⟨_, rfl⟩, .inr (XO'.out _ _ _ HX.out (only_putObj _ _ _) (by have := B1.out.size; omega))⟩
end Go.Proofs.YtijfbhdbfplghaaGreat
namespace Go.Proofs.YtijfbhdbfplghaaGreat
open Go.RowKit
theorem run_load_i {t : TypeId} {ik : IntKind} (hu : Tryz.prog.underlying t = some (.int ik)) (w : World) (G off : Nat) (d : Int) (h : w.cell? ⟨G, off, none⟩ = some (.int ik d)) : (Instr.loadAt t (.pointer (some ⟨G, off, none⟩))).run Tryz.prog w = .ok (.int ik d) w := by
  simp [Instr.loadAt, Instr.sureAddr, loadVar, isAgg, run_underlying hu, h]
theorem quiet_load_i {o : Oper} {a : Act} {W : World} {K : Act → Prop} {t : TypeId} {ik : IntKind} (hu : Tryz.prog.underlying t = some (.int ik)) (G off : Nat) (d : Int) (x : Operand) (ho : o.op = .load t x) (hx : a.eval x = .pointer (some ⟨G, off, none⟩)) (hat : W.cell? ⟨G, off, none⟩ = some (.int ik d))
    (hk : K (a.put o.dst (.int ik d))) : o.quiet Tryz.prog a (Cls W) K := by
  refine ⟨.int ik d, fun w hw => ?_, hk⟩
  obtain ⟨t, rfl⟩ := hw
  have h := run_load_i hu t.1 G off d ((t.2.cell (p := ⟨G, off, none⟩) (World.block_lt_of_cell? W _ hat)).trans hat)
  unfold Oper.quietAt
  have e : (execOp a.eval o).run Tryz.prog t.1 = .ok (.value (.int ik d)) t.1 := by
    simp [execOp, ho, hx, h]
  rw [e]
  exact ⟨rfl, rfl⟩
theorem exec_load_i {t : TypeId} {ik : IntKind} (hu : Tryz.prog.underlying t = some (.int ik)) {o : Oper} {a : Act} {w : World} (x : Operand) (ho : o.op = .load t x) (G off : Nat) (d : Int) (hx : a.eval x = .pointer (some ⟨G, off, none⟩)) (hc : w.cell? ⟨G, off, none⟩ = some (.int ik d)) :
    (execOp a.eval o).run Tryz.prog w = .ok (.value (.int ik d)) w := by
  have h := run_load_i hu w G off d hc
  simp [execOp, ho, hx, h]
theorem size_nmL {m : List Int} (h : m.length = 8) : (Tryz.prog.info? 25).map (·.size) = some (nmL m).length := by
  rw [show (nmL m).length = 8 by unfold nmL; rw [List.length_map]; exact h]; exact size23
section
variable {ops : Array Oper} {rest : List Oper} {op : Oper} {a : Act} {w : World} {Q : Exit → Act → World → Prop}
end
theorem exec_store_i {t : TypeId} {ik : IntKind} (hz : ∀ w, (sizeOf t).run Tryz.prog w = .ok 1 w) {o : Oper} {a : Act} {w : World} (x y : Operand) (ho : o.op = .store t x y) (g : Nat) (u : Value) (d : Int) (hx : a.eval x = .pointer (some ⟨g, 0, none⟩)) (hy : a.eval y = .int ik d) (hb : Blk w g t [u]) :
    (execOp a.eval o).run Tryz.prog w = .ok .skip (w.setCell ⟨g, 0, none⟩ (.int ik d)) := by
  have hc := hb.cell (i := 0) rfl
  have hf := hb.frozen 0
  unfold execOp
  simp only [ho, hx, hy]
  simp [go_sem, hz, hc, hf]
theorem wpList_store_i {t : TypeId} {ik : IntKind} (hz : ∀ w, (sizeOf t).run Tryz.prog w = .ok 1 w) {ops : Array Oper} {rest : List Oper} {op : Oper} {a : Act} {w : World} {Q : Exit → Act → World → Prop} (hgd : op.guard = none) (x y : Operand) (ho : op.op = .store t x y) (g : Nat) (u : Value) (d : Int) (hx : a.eval x = .pointer (some ⟨g, 0, none⟩)) (hy : a.eval y = .int ik d) (hb : Blk w g t [u])
    (h : ∀ w', Hid (Blk w' g t [.int ik d]) → Hid (Only g w w') → wpList Tryz.prog ops Q rest (a.put op.dst undef) w') : wpList Tryz.prog ops Q (op :: rest) a w := by
  refine wpList_plain hgd fun K hK => ?_
  unfold Oper.wp
  rw [exec_store_i hz x y ho g u d hx hy hb]
  exact hK _ _ (h _ (Lib.hid (hb.set 0 (.int ik d))) (Lib.hid (Only.set g 0 w (.int ik d))))
theorem results_note {fn : Func} {p q r : Tmp} (h : fn.results = #[.cell p 25, .cell q 51, .cell r 5]) (tmps : Array Value) (w : World) (g gq gr : Nat) (l : List Int) (x y : Int)
    (hp : tmps.getD p undef = .pointer (some ⟨g, 0, none⟩)) (hq : tmps.getD q undef = .pointer (some ⟨gq, 0, none⟩)) (hr : tmps.getD r undef = .pointer (some ⟨gr, 0, none⟩)) (hat : Blk w g 25 (nmL l)) (hl : l.length = 8) (hx : Blk w gq 51 [.int .u32 x]) (hy : Blk w gr 5 [.int .u8 y]) :
    (results fn tmps).run Tryz.prog w = .ok (.tuple #[.agg (nm l), .int .u32 x, .int .u8 y]) w := by
  have h1 := run_loadVar_row (P := Tryz.prog) w g 25 25 (nm l) (0, 0) _ hat Tryz.underlying25 rfl (size23n hl)
  have c1 := hx.cell (i := 0) rfl
  have c2 := hy.cell (i := 0) rfl
  have hp' : tmps[p]?.getD undef = .pointer (some ⟨g, 0, none⟩) := by simpa using hp
  have hq' : tmps[q]?.getD undef = .pointer (some ⟨gq, 0, none⟩) := by simpa using hq
  have hr' : tmps[r]?.getD undef = .pointer (some ⟨gr, 0, none⟩) := by simpa using hr
  have h2 : (loadVar 51 ⟨gq, 0, none⟩).run Tryz.prog w = .ok (.int .u32 x) w := by simp [go_sem, c1]
  have h3 : (loadVar 5 ⟨gr, 0, none⟩).run Tryz.prog w = .ok (.int .u8 y) w := by simp [go_sem, c2]
  simp [results, h, hp', hq', hr', asAddr, h1, h2, h3, Sem.run_bind, Result.andThen]
end Go.Proofs.YtijfbhdbfplghaaGreat
namespace Go.Proofs.YtijfbhdbfplghaaGreat
open Go.RowKit
theorem only_drew (g : Nat) (w : World) : Only g w w.drew := by
  have b := below_drew (Below.refl w.heap.size w)
  exact ⟨b.os, b.tape, b.output, b.size, fun k hk _ => b.block k hk⟩
theorem ready_store_cs {ops : Array Oper} {Q : Exit → Act → World → Prop} {md : Region.Mode} {S : World → Prop} {fuel : Nat} {listed : Array Bool} {a : Act} {w : World} {i : Nat} {o : Oper} {rs : List Nat} (ho : ops[i]? = some o) (hg : o.guard = none) (t : TypeId) (x y : Operand) (hop : o.op = .store t x y) (g : Nat) (cs ds : List Value)
    (hx : a.eval x = .pointer (some ⟨g, 0, none⟩)) (hy : a.eval y = .agg ds.toArray) (hb : Blk w g t cs) (hl : cs.length = ds.length) (hz : (Tryz.prog.info? t).map (·.size) = some ds.length) (h1 : ds.toArray.all (·.oneCell') = true)
    (h : ∀ w', Blk w' g t ds → Only g w w' → S w' ∧ wpAnyH Tryz.prog md ops Q S fuel (listed.setIfInBounds i true) (a.put o.dst undef) w')
    (hs : AllReadyH Tryz.prog md ops Q S fuel listed a w rs) : AllReadyH Tryz.prog md ops Q S fuel listed a w (i :: rs) := by
  refine AllReadyH.cons ho (fun K hK => ?_) hs
  have hw : Region.wanted o (yielded ops a.tmps) = true := by simp [Region.wanted, hg]
  rw [if_pos hw]
  have hs2 : ds.toArray.size = ds.length := List.size_toArray
  refine wp_store_mid t x y hop g 0 ds.toArray hx hy (hb.there 0 _ (by rw [hs2, hl]; omega)) (by rw [hs2]; exact hz) h1 ?_
  have hB := Blk.setCells ds 0 w cs hb
  rw [setL_all _ _ hl] at hB
  have H := h _ hB (Only.setCells ds 0 w)
  exact hK.out _ _ H.1 (fun _ => H.2)
end Go.Proofs.YtijfbhdbfplghaaGreat
