/- The iterator over the tags of a row that meet a condition: what it hands over. -/
import Derived.Test.YtdigbipfchgjmaaGreatConds
namespace Go.Proofs.YtdigbipfchgjmaaGreat
open Go.RowKit Go.Shelf
attribute [local go_sem] Oper.semAt_some

def NxA (s : List Am) (pre : List Am) (x : Am) : Prop := ∃ rest, s = pre ++ x :: rest
theorem each_gen (Bs : Nat) (D : Option Addr) (m c : Nat) (s : List Am) (hm : m ≤ 1000) : SeqGen 63 #[.pointer (some ⟨Bs, 0, none⟩)] (fun V => Blk V Bs 22 [.slice D m c] ∧ RowV V D m c s) encP (NxA s) (fun t => t = s) := by
  intro l J X W hJb _ hJn _ hY _ h0
  refine ((each_seq Bs D m c s hm) l (fun pre V => W.heap.size ≤ V.heap.size ∧ J W.heap.size pre V) X W (fun pre V V' h hb => ⟨Nat.le_trans h.1 hb.size, hJb _ _ _ _ h.2 hb⟩) (fun pre V h => hJn _ _ _ h.2) ?_ ⟨Nat.le_refl _, h0 _ _ (Nat.le_refl _) (Nat.le_refl _) (Below.refl _ _)⟩).mono ?_
  · rintro pre x rest V hs ⟨h1, h2⟩
    refine (hY W.heap.size pre x V ⟨rest, hs⟩ h2 (Nat.le_refl _) h1).mono ?_
    rintro e V' ⟨h3, _, (⟨he, h4⟩ | ⟨he, h4⟩)⟩
    · exact .inl ⟨he, Nat.le_trans h1 h3, h4⟩
    · exact .inr ⟨he, h4⟩
  · rintro e V ⟨h1, (⟨_, h2⟩ | h2)⟩
    · exact ⟨h1, .inl ⟨s, _, rfl, h2⟩⟩
    · exact ⟨h1, .inr h2⟩
theorem rowV_seg {lo : Nat} {w w' : World} {A : Option Addr} {n cap : Nat} {l : List Am} (h : RowV w A n cap l) (hf : ∀ G off, A = some ⟨G, off, none⟩ → lo ≤ G) (hs : ∀ k, lo ≤ k → k < w.heap.size → w'.heap[k]? = w.heap[k]?) (hz : w.heap.size ≤ w'.heap.size) : RowV w' A n cap l :=
  ⟨h.ok, h.len, h.le, h.most, fun h0 => by
    obtain ⟨G, off, ha, hG, hr⟩ := h.at_ h0
    refine ⟨G, off, ha, Nat.lt_of_lt_of_le hG hz, fun i hi j v hv => ?_⟩
    have h1 := hr i hi j v hv
    unfold World.cell? at *
    rw [show w'.heap[(⟨G, off + i * 21 + j, none⟩ : Addr).block]? = w.heap[(⟨G, off + i * 21 + j, none⟩ : Addr).block]? from hs G (hf G off ha) hG]
    exact h1⟩
/-- What the iterator keeps: its own blocks stand as they stood in w2. -/
structure Own2 (lo : Nat) (w2 V : World) : Prop where
  same : ∀ k, lo ≤ k → k < w2.heap.size → V.heap[k]? = w2.heap[k]?
  size : w2.heap.size ≤ V.heap.size
theorem Own2.below {lo : Nat} {w2 V V' : World} (h : Own2 lo w2 V) (hb : Below V.heap.size V V') : Own2 lo w2 V' :=
  ⟨fun k h1 h2 => (hb.block k (by have := h.size; omega)).trans (h.same k h1 h2), Nat.le_trans h.size hb.size⟩
theorem Own2.only {lo g : Nat} {w2 V V' : World} (h : Own2 lo w2 V) (hb : Only g V V') (hg : w2.heap.size ≤ g) : Own2 lo w2 V' :=
  ⟨fun k h1 h2 => (hb.block k (by have := h.size; omega) (by omega)).trans (h.same k h1 h2), Nat.le_trans h.size hb.size⟩
theorem Own2.put {lo i : Nat} {w2 V : World} {o : Obj} (h : Own2 lo w2 V) (hg : w2.heap.size ≤ i) : Own2 lo w2 (V.putObj i o) :=
  ⟨fun k h1 h2 => (World.putObj_heap_other (by omega)).trans (h.same k h1 h2), by simpa using h.size⟩
theorem Own2.blk {lo g t : Nat} {w2 V : World} {cs : List Value} (h : Own2 lo w2 V) (hb : Blk w2 g t cs) (hl : lo ≤ g) : Blk V g t cs := (h.same g hl hb.lt).trans hb
theorem only_putObj (w : World) (i : Nat) (o : Obj) : Only i w (w.putObj i o) :=
  ⟨rfl, rfl, rfl, by simp, fun k _ hn => World.putObj_heap_other hn⟩
def NxK (L : List Ky) (pre : List Ky) (x : Ky) : Prop := ∃ rest, L = pre ++ x :: rest
theorem pick_nx {p : Ky → Vl → Bool} {s pre rest : List Am} {x : Am} (hs : s = pre ++ x :: rest) (hx : sel p x = true) : NxK (pick p s) (pick p pre) x.k := by
  refine ⟨pick p rest, ?_⟩
  unfold pick
  rw [hs, List.filter_append, List.map_append, List.filter_cons_of_pos hx]; rfl
set_option maxRecDepth 100000 in
set_option maxHeartbeats 8000000 in
theorem pick_seq (gf : Nat) (lb : Array Value) (eg : ∀ args w, (callFunc gf args).run Tryz.prog w = .ok (.enter gf args) w) (NC : World → Prop) (p : Ky → Vl → Bool) (hc : CondF gf lb NC p) (hNb : ∀ V V', NC V → Below V.heap.size V V' → NC V')
    (g2 g3 : Nat) (A : Option Addr) (n cap : Nat) (a : List Am) (hn : n ≤ 600) :
    SeqGen 45 #[.pointer (some ⟨g2, 0, none⟩), .pointer (some ⟨g3, 0, none⟩)] (fun V => (Blk V g2 22 [.slice A n cap] ∧ RowV V A n cap a) ∧ Blk V g3 65 [.func (.func gf) #[] lb] ∧ NC V) encK (NxK (pick p (norm a))) (fun t => t = pick p (norm a)) := by
  intro l J X W hJb hJo hJn hXo hY hN0 h0
  have c0 := (hN0.1.1.alloc (.cells #[.func (.yield l) #[] #[]] 85)).cell (i := 0) rfl
  have R0 := Lib.hid (hN0.1.2.below (new_below W (.cells #[.func (.yield l) #[] #[]] 85)))
  have Q0 := Lib.hid (blk_alloc W 85 [.func (.yield l) #[] #[]])
  have B0 := Lib.hid (new_below W (.cells #[.func (.yield l) #[] #[]] 85))
  have HC := Lib.hid hc
  have HNB := Lib.hid hNb
  have JB := Lib.hid hJb
  have JO := Lib.hid hJo
  have XO' := Lib.hid hXo
  have JN := Lib.hid hJn
  have HY := Lib.hid hY
  have H0 := Lib.hid h0
  clear hJb hJo hJn hXo hY hN0 h0 hc hNb
  refine (callsIn_wide (n := 10)).1 ?_
  refine callsIn_of_wp_marks Tryz.func45 rfl trivial ?_ rfl
  simp only [Tryz.ntmps45, List.size_toArray, List.length_cons, List.length_nil, Nat.reduceAdd, Nat.reduceSub, Array.replicate_succ, Array.replicate_zero, List.push_toArray, List.append_toArray, List.nil_append, List.cons_append]
  gi_wp2_with fail
  refine ⟨trivial, (callsIn_wide.2 (each_isO A n cap a _ R0.out hn)).mono ?_⟩
  rintro e w2 ⟨⟨Bs, D, m1, c1, rfl, lbs, k1, r1, f1⟩, b1⟩
  have K1 := Lib.hid k1
  have R1 := Lib.hid r1
  have F1 := Lib.hid (show ∀ G off, D = some ⟨G, off, none⟩ → W.heap.size ≤ G from fun G off e => Nat.le_trans B0.out.size (f1 G off e))
  have Q1 := Lib.hid (Q0.out.below b1)
  have B1 := Lib.hid (step_ B0.out b1)
  have LBS := Lib.hid (show W.heap.size ≤ Bs by have := B0.out.size; omega)
  have hm1 : m1 ≤ 1000 := by have := norm_len a; rw [r1.len, R0.out.len] at this; omega
  have ST := Lib.hid (norm_st R0.out.ok)
  clear k1 r1 b1 lbs f1 R0 Q0 B0 c0
  gi_wp2_with fail
  rename_i K0
  obtain ⟨s, hs⟩ : ∃ s, norm a = s := ⟨_, rfl⟩
  rw [hs] at R1 ST HY
  have NE := Lib.hid hs
  clear hs
  refine range_gen (gf := 63) (lb := #[.pointer (some ⟨Bs, 0, none⟩)]) rfl (fun _ _ => rfl) (each_gen Bs D m1 c1 s hm1) (fun _ => rfl)
    (fun B pre V => J B (pick p pre) V ∧ Own2 W.heap.size w2 V ∧ B ≤ V.heap.size)
    (fun V => X V)
    (fun B pre V V' h hb => ⟨JB.out _ _ _ _ h.1 hb, h.2.1.below hb, Nat.le_trans h.2.2 hb.size⟩)
    (fun B pre V V' h9 h ho hg hB => ⟨JO.out _ _ _ _ _ h.1 ho (by have := B1.out.size; omega) hB, h.2.1.only ho (by omega), Nat.le_trans h.2.2 ho.size⟩)
    (fun B pre V o hB h => ⟨JO.out _ _ _ _ _ h.1 (only_putObj _ _ _) (by have := B1.out.size; omega) (by omega), h.2.1.put (by omega), by simpa using h.2.2⟩)
    (fun V o h => XO'.out _ _ _ h (only_putObj _ _ _) (by have := B1.out.size; omega))
    (fun V V' g h ho hg => XO'.out _ _ _ h ho (by have := B1.out.size; omega))
    (fun B pre V h => ⟨h.2.1.blk K1.out LBS.out, rowV_seg R1.out F1.out h.2.1.same h.2.1.size⟩)
    (fun V hb => ⟨K1.out.below hb, R1.out.below hb⟩)
    (fun B V hB hV hb => ⟨H0.out _ _ (by have := B1.out.size; omega) hV (step_ B1.out hb), ⟨fun k _ h2 => hb.block k h2, hb.size⟩, hV⟩)
    (fun B pre x a' V => ∃ g4 g5, a' = { tmps := #[.func (.yield l) #[] #[], .pointer (some ⟨g2, 0, none⟩), .pointer (some ⟨g3, 0, none⟩), .pointer (some ⟨W.heap.size, 0, none⟩), .pointer (some ⟨g4, 0, none⟩), .pointer (some ⟨g5, 0, none⟩), .slice A n cap, .func (.func 63) #[] #[.pointer (some ⟨Bs, 0, none⟩)], .agg x.k.cells.toArray, .agg x.v.cells.toArray, undef, undef, undef, undef, undef, undef, undef, undef, undef, undef, undef, undef, undef, undef, undef], defers := [] } ∧ B ≤ g4 ∧ B ≤ g5 ∧ Blk V g4 48 x.k.cells ∧ Blk V g5 52 x.v.cells ∧ J B (pick p pre) V ∧ Own2 W.heap.size w2 V ∧ B ≤ V.heap.size)
    (fun B pre x a' V o hB h => by
      obtain ⟨g4, g5, e, l4, l5, k4, k5, hj, ho, hv⟩ := h
      exact ⟨g4, g5, e, l4, l5, blk_put k4 (by omega), blk_put k5 (by omega), JO.out _ _ _ _ _ hj (only_putObj _ _ _) (by have := B1.out.size; omega) (by omega), ho.put (by omega), by simpa using hv⟩)
    ?assign ?body ?done ?stop
  case assign =>
    intro l2 B pre x V K hnx hi hB hB2 hlt hK
    have XO := Lib.hid (ST.out.ok x (by obtain ⟨rest, e⟩ := hnx; rw [e]; simp))
    have HI := Lib.hid hi
    have Z1 := Lib.hid (blk_alloc V 48 kzero.cells)
    have hz := zero27
    have hz2 := zero30
    clear hi hnx
    simp only [encP, List.zip_toArray, List.zip_cons_cons, List.zip_nil_right, List.foldl_toArray', List.foldl_cons, List.foldl_nil, List.size_toArray, List.length_cons, List.length_nil, List.setIfInBounds_toArray, List.set_cons_zero, List.set_cons_succ]
    gi_wp2_with (first
      | (refine in_plain (wide_in l2) rfl (by intro c h; cases h) ?_; refine wpList_store_ky rfl _ _ rfl V.heap.size kzero x.k rfl rfl Z1.out kzero_ok.ml XO.out.k.ml ?_; intro V1 N1 O1; have Z2 := Lib.hid (blk_alloc V1 52 vzero.cells); have BV := Lib.hid (box_below O1.out); refine in_done ?_)
      | (refine in_plain (wide_in l2) rfl (by intro c h; cases h) ?_; refine wpList_store_vl rfl _ _ rfl V1.heap.size vzero x.v rfl rfl Z2.out rfl XO.out.v.tl ?_; intro V2 N2 O2; refine in_done ?_))
    have QQ := box_below O2.out
    have Q3 := step_ BV.out QQ
    obtain ⟨h1, h2, h3⟩ := HI.out
    exact hK _ _ Q3 ⟨_, _, rfl, hB2, Nat.le_trans hB2 BV.out.size, N1.out.below QQ, N2.out, JB.out _ _ _ _ h1 Q3, h2.below Q3, Nat.le_trans h3 Q3.size⟩
  case body =>
    intro l2 B pre x a' V hnx hax hB hB2 hlt
    obtain ⟨g4, g5, rfl, l4, l5, k4, k5, hj, ho, hv⟩ := hax
    have XO := Lib.hid (ST.out.ok x (by obtain ⟨rest, e⟩ := hnx; rw [e]; simp))
    have NX := Lib.hid hnx
    have G4 := Lib.hid k4
    have G5 := Lib.hid k5
    have JJ := Lib.hid hj
    have OW := Lib.hid ho
    have HB := Lib.hid hB2
    have HBB := Lib.hid hB
    have B1S := Lib.hid B1.out.size
    have L4 := Lib.hid l4
    have L5 := Lib.hid l5
    have SN := Lib.hid (pick_snoc p pre x)
    have Y3 := Lib.hid (ho.blk Q1.out (Nat.le_refl _))
    have NN := Lib.hid (JN.out _ _ _ hj).2
    have c1 := k4.cell (kc0 x.k)
    have c2 := NN.out.1.cell (i := 0) rfl
    have c3 := Y3.out.cell (i := 0) rfl
    clear k4 k5 hj ho hnx hv hB hB2 l4 l5
    by_cases hs1 : x.k.s = 1
    · cases hp : p x.k x.v with
      | false =>
        have PN := Lib.hid (show pick p (pre ++ [x]) = pick p pre by rw [SN.out, if_neg (by simp [sel, hp])])
        have HP := Lib.hid hp
        clear hp
        gi_wp2_with (first
          | (refine in_skip (wide_in l2) rfl ?_)
          | (refine in_want rfl ?_; refine in_plain (wide_in l2) rfl (by intro c h; cases h) ?_; refine wpList_load_ky rfl _ rfl g4 0 x.k rfl G4.out.range XO.out.k.ml ?_; refine in_done ?_)
          | (refine in_want rfl ?_; refine in_plain (wide_in l2) rfl (by intro c h; cases h) ?_; refine wpList_load_vl rfl _ rfl g5 0 x.v rfl G5.out.range XO.out.v.tl ?_; refine in_done ?_))
        refine ⟨trivial, (calls_in (wide_in l2) (HC.out x.k x.v V XO.out.k XO.out.v NN.out.2)).mono ?_⟩
        rw [HP.out]
        rintro e W3 ⟨rfl, b3⟩
        have B3 := Lib.hid b3
        clear b3
        gi_wp2_with (refine in_skip (wide_in l2) rfl ?_)
        refine ⟨KeepL.below B3.out hlt, fun k _ h2 => B3.out.block k (Nat.lt_of_lt_of_le h2 HB.out), ?_⟩
        rw [PN.out]
        exact ⟨JB.out _ _ _ _ JJ.out B3.out, OW.out.below B3.out, Nat.le_trans HB.out B3.out.size⟩
      | true =>
        have PN := Lib.hid (show pick p (pre ++ [x]) = pick p pre ++ [x.k] by rw [SN.out, if_pos (by simp [sel, hs1, hp])])
        have NXK := Lib.hid (show NxK (pick p s) (pick p pre) x.k by obtain ⟨rest, e⟩ := NX.out; exact pick_nx e (by simp [sel, hs1, hp]))
        have HP := Lib.hid hp
        clear hp
        gi_wp2_with (first
          | (refine in_skip (wide_in l2) rfl ?_)
          | (refine in_want rfl ?_; refine in_plain (wide_in l2) rfl (by intro c h; cases h) ?_; refine wpList_load_ky rfl _ rfl g4 0 x.k rfl G4.out.range XO.out.k.ml ?_; refine in_done ?_)
          | (refine in_want rfl ?_; refine in_plain (wide_in l2) rfl (by intro c h; cases h) ?_; refine wpList_load_vl rfl _ rfl g5 0 x.v rfl G5.out.range XO.out.v.tl ?_; refine in_done ?_))
        refine ⟨trivial, (calls_in (wide_in l2) (HC.out x.k x.v V XO.out.k XO.out.v NN.out.2)).mono ?_⟩
        rw [HP.out]
        rintro e W3 ⟨rfl, b3⟩
        have B3 := Lib.hid b3
        have G43 := Lib.hid (G4.out.below b3)
        have c4 := (Y3.out.below b3).cell (i := 0) rfl
        obtain ⟨fn, tmps, assign, body, hy, hR⟩ := yield_any (HY.out B (pick p pre) x.k W3 NXK.out (JB.out _ _ _ _ JJ.out b3) (Nat.le_trans (Nat.le_trans B1S.out (Nat.le_add_right _ 2)) HBB.out) (Nat.le_trans HB.out b3.size)) 8 (some l2)
        clear b3
        gi_wp2_with (first
          | (refine in_skip (wide_in l2) rfl ?_)
          | (refine in_want rfl ?_; refine in_plain (wide_in l2) rfl (by intro c h; cases h) ?_; refine wpList_load_ky rfl _ rfl g4 0 x.k rfl G43.out.range XO.out.k.ml ?_; refine in_done ?_))
        refine hR.mono ?_
        rintro e W4 ⟨hs4, hk4, (⟨rfl, hJ4⟩ | ⟨rfl, hX4⟩)⟩
        · have J4 := Lib.hid hJ4
          have S4 := Lib.hid hs4
          have K4 := Lib.hid hk4
          clear hJ4 hs4 hk4 hR hy
          gi_wp2_with (refine in_skip (wide_in l2) rfl ?_)
          have hB0 := HBB.out
          have hB1 := B1S.out
          have hz3 := B3.out.size
          have hz4 := S4.out
          have hz5 := HB.out
          refine ⟨⟨by omega, ?_, ?_⟩, fun k h1 h2 => (K4.out k (by omega) h2).trans (B3.out.block k (by omega)), ?_, ⟨fun k h1 h2 => ?_, ?_⟩, by omega⟩
          · exact (K4.out _ (by omega) (by omega)).trans (B3.out.block _ (by omega))
          · exact (K4.out _ (by omega) (by omega)).trans (B3.out.block _ (by omega))
          · rw [PN.out]; exact J4.out
          · exact (K4.out _ h1 (by omega)).trans ((B3.out.block _ (by omega)).trans (OW.out.same k h1 h2))
          · omega
        · have X4 := Lib.hid hX4
          have S4 := Lib.hid hs4
          have K4 := Lib.hid hk4
          clear hX4 hs4 hk4 hR hy
          gi_wp2_with (refine in_skip (wide_in l2) rfl ?_)
          have hB0 := HBB.out
          have hB1 := B1S.out
          have hz3 := B3.out.size
          have hz4 := S4.out
          have hz5 := HB.out
          refine ⟨⟨by omega, ?_, ?_⟩, fun k h1 h2 => (K4.out k (by omega) h2).trans (B3.out.block k (by omega)), X4.out⟩
          · exact (K4.out _ (by omega) (by omega)).trans (B3.out.block _ (by omega))
          · exact (K4.out _ (by omega) (by omega)).trans (B3.out.block _ (by omega))
    · have PN := Lib.hid (show pick p (pre ++ [x]) = pick p pre by rw [SN.out, if_neg (by simp [sel, hs1])])
      have hbs : (x.k.s == 1) = false := by simpa using hs1
      gi_wp2_with (refine in_skip (wide_in l2) rfl ?_)
      refine ⟨KeepL.refl _ _, ?_⟩
      rw [PN.out]
      exact ⟨JJ.out, OW.out, HB.out⟩
  case done =>
    intro D9 B t V hD hD2 hB hf hi hd
    subst hf
    have JJ := Lib.hid hi.1
    have HD := Lib.hid hd
    have LD := Lib.hid (show W.heap.size ≤ D9 ∧ D9 < B by have := B1.out.size; omega)
    clear hi hd HY
    show bodyPostM Fence.wide 10 Tryz.prog Tryz.f45 _ .ret _ V
    refine marks_ret D9 rfl HD.out (results_none rfl _ _ _) ?_
    exact ⟨⟨_, rfl⟩, .inl ⟨_, B, by rw [NE.out], JO.out _ _ _ _ _ JJ.out (only_putObj _ _ _) LD.out.1 LD.out.2⟩⟩
  case stop =>
    intro D9 V hD hx hd
    have HX := Lib.hid hx
    have HD := Lib.hid hd
    clear hx hd HY
    gi_wp2_with fail
    refine marks_ret D9 rfl HD.out (results_none rfl _ _ _) ?_
    exact ⟨⟨_, rfl⟩, .inr (XO'.out _ _ _ HX.out (only_putObj _ _ _) (by have := B1.out.size; omega))⟩
end Go.Proofs.YtdigbipfchgjmaaGreat
