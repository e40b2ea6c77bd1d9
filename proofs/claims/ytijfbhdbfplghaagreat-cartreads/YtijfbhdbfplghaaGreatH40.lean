/- The conditions of package tags as function values; the iterator over the tags of a row that meet one. The iterator over the tags of a row that meet a condition: what it hands over. The contracts of Seen, Live and Present of package tags. -/
import Derived.Test.YtijfbhdbfplghaaGreatH39
import Derived.Test.YtijfbhdbfplghaaGreatH25
import Derived.Test.YtijfbhdbfplghaaGreatH19
import Derived.Test.YtijfbhdbfplghaaGreatH24
namespace Go.Proofs.YtijfbhdbfplghaaGreat
open Go.RowKit
set_option maxRecDepth 100000 in
theorem tof1_is (c : Int) (m : List Int) (g2 g3 : Nat) (k : Ky) (v : Vl) (b : Bool) (w : World) (hk : k.Ok) (hm : m.length = 8) (h2 : Blk w g2 23 [.int .u16 c]) (h3 : Blk w g3 25 (nmL m)) (hb : Hid (pof c m k v = b)) :
    Calls Tryz.prog 73 #[.agg k.cells.toArray, .agg v.cells.toArray, .pointer (some ⟨g2, 0, none⟩), .pointer (some ⟨g3, 0, none⟩)] w fun e w' => e = .returned (.bool b) ∧ Below w.heap.size w w' := by
  have B0 := Lib.hid (step_ (new_below w (.cells k.cells.toArray 53)) (new_below _ (.cells v.cells.toArray 56)))
  have q := (blk_alloc w 53 k.cells).alloc (.cells v.cells.toArray 56)
  have c0 := q.cell (kc1 k)
  have c2 := ((h2.alloc (.cells k.cells.toArray 53)).alloc (.cells v.cells.toArray 56)).cell (i := 0) rfl
  have R1 := Lib.hid (q.knm hk.ml)
  have R3 := Lib.hid ((h3.alloc (.cells k.cells.toArray 53)).alloc (.cells v.cells.toArray 56)).range
  have HK := Lib.hid hk.ml
  have HM := Lib.hid hm
  have hh := hb.out
  unfold pof at hh
  clear q h2 h3 hk hm hb
  by_cases k1 : k.c = c
  · rw [decide_eq_true k1, Bool.true_and] at hh
    have E := Lib.hid hh
    clear hh
    go_enter Tryz.func73, Tryz.ntmps73
    go_wp2_with (first
      | (refine wanted_on rfl ?_; refine wpList_load_nm rfl _ rfl w.heap.size 2 k.m rfl R1.out HK.out ?_)
      | (refine wanted_on rfl ?_; refine wpList_load_nm rfl _ rfl g3 0 m rfl R3.out HM.out ?_)
      | (refine wanted_on rfl ?_; refine wpList_val rfl _ (exec_eq_nm _ _ _ rfl k.m m rfl rfl HK.out HM.out) ?_; rw [E.out]))
    go_ret
    exact ⟨rfl, B0.out⟩
  · rw [decide_eq_false k1, Bool.false_and] at hh
    subst hh
    go_enter Tryz.func73, Tryz.ntmps73
    go_wp2_with fail
    go_ret
    exact ⟨rfl, B0.out⟩
set_option maxRecDepth 100000 in
theorem in1_is (c : Int) (g2 : Nat) (k : Ky) (v : Vl) (b : Bool) (w : World) (h2 : Blk w g2 23 [.int .u16 c]) (hb : Hid (pin c k v = b)) :
    Calls Tryz.prog 91 #[.agg k.cells.toArray, .agg v.cells.toArray, .pointer (some ⟨g2, 0, none⟩)] w fun e w' => e = .returned (.bool b) ∧ Below w.heap.size w w' := by
  have B0 := Lib.hid (step_ (new_below w (.cells k.cells.toArray 53)) (new_below _ (.cells v.cells.toArray 56)))
  have c0 := ((blk_alloc w 53 k.cells).alloc (.cells v.cells.toArray 56)).cell (kc1 k)
  have c2 := ((h2.alloc (.cells k.cells.toArray 53)).alloc (.cells v.cells.toArray 56)).cell (i := 0) rfl
  have hh := hb.out
  unfold pin at hh
  clear h2 hb
  subst hh
  go_enter Tryz.func91, Tryz.ntmps91
  go_wp2_with fail
  go_ret
  exact ⟨rfl, B0.out⟩
set_option maxRecDepth 100000 in
theorem there1_is (gf : Nat) (lb : Array Value) (eg : ∀ args w, (callFunc gf args).run Tryz.prog w = .ok (.enter gf args) w) (N : World → Prop) (p : Ky → Vl → Bool) (hc : CondF gf lb N p) (hNb : ∀ V V', N V → Below V.heap.size V V' → N V')
    (g : Nat) (k : Ky) (v : Vl) (b : Bool) (w : World) (hk : k.Ok) (hv : v.Ok) (h2 : Blk w g 89 [.func (.func gf) #[] lb]) (hN : N w) (hb : Hid (pth p k v = b)) :
    Calls Tryz.prog 72 #[.agg k.cells.toArray, .agg v.cells.toArray, .pointer (some ⟨g, 0, none⟩)] w fun e w' => e = .returned (.bool b) ∧ Below w.heap.size w w' := by
  have B0 := Lib.hid (step_ (new_below w (.cells k.cells.toArray 53)) (new_below _ (.cells v.cells.toArray 56)))
  have q := Lib.hid ((blk_alloc w 53 k.cells).alloc (.cells v.cells.toArray 56))
  have z := Lib.hid (blk2 w (.cells k.cells.toArray 53) 56 v.cells)
  have c0 := z.out.cell (vc0 v)
  have c2 := ((h2.alloc (.cells k.cells.toArray 53)).alloc (.cells v.cells.toArray 56)).cell (i := 0) rfl
  have NN := Lib.hid (hNb _ _ hN B0.out)
  have HC := Lib.hid hc
  have HK := Lib.hid hk
  have HV := Lib.hid hv
  have hh := hb.out
  unfold pth at hh
  clear h2 hk hv hb hN hc
  by_cases k1 : v.n = 1
  · rw [decide_eq_true k1, Bool.true_and] at hh
    have E := Lib.hid hh
    clear hh
    go_enter Tryz.func72, Tryz.ntmps72
    go_wp2_with (first
      | (refine wanted_on rfl ?_; refine wpList_load_ky rfl _ rfl w.heap.size 0 k rfl q.out.range HK.out.ml ?_)
      | (refine wanted_on rfl ?_; refine wpList_load_vl rfl _ rfl (w.heap.size + 1) 0 v rfl z.out.range HV.out.tl ?_))
    refine (HC.out k v _ HK.out HV.out NN.out).mono ?_
    rintro e w1 ⟨rfl, b1⟩
    have B1 := Lib.hid (step_ B0.out b1)
    clear b1
    rw [E.out]
    go_wp2_with fail
    go_ret
    exact ⟨rfl, B1.out⟩
  · rw [decide_eq_false k1, Bool.false_and] at hh
    subst hh
    go_enter Tryz.func72, Tryz.ntmps72
    go_wp2_with fail
    go_ret
    exact ⟨rfl, B0.out⟩
theorem tof_cond (c : Int) (m : List Int) (hm : m.length = 8) (g2 g3 : Nat) : CondF 73 #[.pointer (some ⟨g2, 0, none⟩), .pointer (some ⟨g3, 0, none⟩)] (fun V => Blk V g2 23 [.int .u16 c] ∧ Blk V g3 25 (nmL m)) (pof c m) :=
  fun k v W hk _ h => tof1_is c m g2 g3 k v _ W hk hm h.1 h.2 (Lib.hid rfl)
theorem in_cond (c : Int) (g2 : Nat) : CondF 91 #[.pointer (some ⟨g2, 0, none⟩)] (fun V => Blk V g2 23 [.int .u16 c]) (pin c) :=
  fun k v W _ _ h => in1_is c g2 k v _ W h (Lib.hid rfl)
theorem there_cond {gf : Nat} {lb : Array Value} (eg : ∀ args w, (callFunc gf args).run Tryz.prog w = .ok (.enter gf args) w) {N : World → Prop} {p : Ky → Vl → Bool} (hc : CondF gf lb N p) (hNb : ∀ V V', N V → Below V.heap.size V V' → N V') (g : Nat) :
    CondF 72 #[.pointer (some ⟨g, 0, none⟩)] (fun V => Blk V g 89 [.func (.func gf) #[] lb] ∧ N V) (pth p) :=
  fun k v W hk hv h => there1_is gf lb eg N p hc hNb g k v _ W hk hv h.1 h.2 (Lib.hid rfl)
set_option maxRecDepth 100000 in
theorem tof_is (c : Int) (m : List Int) (w : World) : Calls Tryz.prog 50 #[.int .u16 c, .agg (nm m)] w fun e w' => (∃ g h, e = .returned (.func (.func 73) #[] #[.pointer (some ⟨g, 0, none⟩), .pointer (some ⟨h, 0, none⟩)]) ∧ Blk w' g 23 [.int .u16 c] ∧ Blk w' h 25 (nmL m) ∧ w.heap.size ≤ g ∧ w.heap.size ≤ h) ∧ Below w.heap.size w w' := by
  go_enter Tryz.func50, Tryz.ntmps50
  go_wp2_with fail
  go_ret
  exact ⟨⟨w.heap.size, w.heap.size + 1, by simp, (blk_alloc w 23 [.int .u16 c]).alloc _, blk2 w (.cells #[.int .u16 c] 23) 25 (nmL m), Nat.le_refl _, Nat.le_add_right _ _⟩, step_ (new_below w _) (new_below _ _)⟩
set_option maxRecDepth 100000 in
theorem there_is (gf : Nat) (lb : Array Value) (w : World) : Calls Tryz.prog 49 #[.func (.func gf) #[] lb] w fun e w' => (∃ g, e = .returned (.func (.func 72) #[] #[.pointer (some ⟨g, 0, none⟩)]) ∧ Blk w' g 89 [.func (.func gf) #[] lb] ∧ w.heap.size ≤ g) ∧ Below w.heap.size w w' := by
  go_enter Tryz.func49, Tryz.ntmps49
  go_wp2_with fail
  go_ret
  exact ⟨⟨w.heap.size, rfl, blk_alloc w 89 [.func (.func gf) #[] lb], Nat.le_refl _⟩, new_below w _⟩
set_option maxRecDepth 100000 in
theorem in_is (c : Int) (w : World) : Calls Tryz.prog 76 #[.int .u16 c] w fun e w' => (∃ g, e = .returned (.func (.func 91) #[] #[.pointer (some ⟨g, 0, none⟩)]) ∧ Blk w' g 23 [.int .u16 c] ∧ w.heap.size ≤ g) ∧ Below w.heap.size w w' := by
  go_enter Tryz.func76, Tryz.ntmps76
  go_wp2_with fail
  go_ret
  exact ⟨⟨w.heap.size, rfl, blk_alloc w 23 [.int .u16 c], Nat.le_refl _⟩, new_below w _⟩
set_option maxRecDepth 100000 in
theorem picks_is (A : Option Addr) (n cap : Nat) (gf : Nat) (lb : Array Value) (w : World) : Calls Tryz.prog 48 #[.slice A n cap, .func (.func gf) #[] lb] w fun e w' => (∃ g h, e = .returned (.func (.func 71) #[] #[.pointer (some ⟨g, 0, none⟩), .pointer (some ⟨h, 0, none⟩)]) ∧ Blk w' g 22 [.slice A n cap] ∧ Blk w' h 89 [.func (.func gf) #[] lb] ∧ w.heap.size ≤ g ∧ w.heap.size ≤ h) ∧ Below w.heap.size w w' := by
  go_enter Tryz.func48, Tryz.ntmps48
  go_wp2_with fail
  go_ret
  exact ⟨⟨w.heap.size, w.heap.size + 1, by simp, (blk_alloc w 22 [.slice A n cap]).alloc _, blk2 w (.cells #[.slice A n cap] 22) 89 [.func (.func gf) #[] lb], Nat.le_refl _, Nat.le_add_right _ _⟩, step_ (new_below w _) (new_below _ _)⟩
end Go.Proofs.YtijfbhdbfplghaaGreat
namespace Go.Proofs.YtijfbhdbfplghaaGreat
open Go.RowKit Go.Shelf
attribute [local go_sem] Oper.semAt_some
set_option maxRecDepth 100000 in
set_option maxHeartbeats 8000000 in
theorem pick_seq (gf : Nat) (lb : Array Value) (eg : ∀ args w, (callFunc gf args).run Tryz.prog w = .ok (.enter gf args) w) (NC : World → Prop) (p : Ky → Vl → Bool) (hc : CondF gf lb NC p) (hNb : ∀ V V', NC V → Below V.heap.size V V' → NC V')
    (g2 g3 : Nat) (A : Option Addr) (n cap : Nat) (a : List Am) (hn : n ≤ 600) :
    SeqGen 71 #[.pointer (some ⟨g2, 0, none⟩), .pointer (some ⟨g3, 0, none⟩)] (fun V => (Blk V g2 22 [.slice A n cap] ∧ RowV V A n cap a) ∧ Blk V g3 89 [.func (.func gf) #[] lb] ∧ NC V) encK (NxK (pick p (norm a))) (fun t => t = pick p (norm a)) := by
  intro l J X W hJb hJo hJn hXo hY hN0 h0
  have c0 := (hN0.1.1.alloc (.cells #[.func (.yield l) #[] #[]] 108)).cell (i := 0) rfl
  have R0 := Lib.hid (hN0.1.2.below (new_below W (.cells #[.func (.yield l) #[] #[]] 108)))
  have Q0 := Lib.hid (blk_alloc W 108 [.func (.yield l) #[] #[]])
  have B0 := Lib.hid (new_below W (.cells #[.func (.yield l) #[] #[]] 108))
  have HC := Lib.hid hc
  have HNB := Lib.hid hNb
  have JB := Lib.hid hJb
  have JO := Lib.hid hJo
  have XO' := Lib.hid hXo
  have JN := Lib.hid hJn
  have HY := Lib.hid hY
  have H0 := Lib.hid h0
  clear hJb hJo hJn hXo hY hN0 h0 hc hNb
  refine (callsIn_wide (n := 10)).1 ?_
  refine callsIn_of_wp_marks Tryz.func71 rfl trivial ?_ rfl
  simp only [Tryz.ntmps71, List.size_toArray, List.length_cons, List.length_nil, Nat.reduceAdd, Nat.reduceSub, Array.replicate_succ, Array.replicate_zero, List.push_toArray, List.append_toArray, List.nil_append, List.cons_append]
  gi_wp2_with fail
  refine ⟨trivial, (callsIn_wide.2 (each_isO A n cap a _ R0.out hn)).mono ?_⟩
  rintro e w2 ⟨⟨Bs, D, m1, c1, rfl, lbs, k1, r1, f1⟩, b1⟩
  have K1 := Lib.hid k1
  have R1 := Lib.hid r1
  have F1 := Lib.hid (show ∀ G off, D = some ⟨G, off, none⟩ → W.heap.size ≤ G from fun G off e => Nat.le_trans B0.out.size (f1 G off e))
  have Q1 := Lib.hid (Q0.out.below b1)
  have B1 := Lib.hid (step_ B0.out b1)
  have LBS := Lib.hid (show W.heap.size ≤ Bs by have := B0.out.size; omega)
  have hm1 : m1 ≤ 1000 := by have := norm_len a; rw [r1.len, R0.out.len] at this; omega
  have ST := Lib.hid (norm_st R0.out.ok)
  clear k1 r1 b1 lbs f1 R0 Q0 B0 c0
  gi_wp2_with fail
  rename_i K0
  obtain ⟨s, hs⟩ : ∃ s, norm a = s := ⟨_, rfl⟩
  rw [hs] at R1 ST HY
  have NE := Lib.hid hs
  clear hs
  refine range_gen (gf := 75) (lb := #[.pointer (some ⟨Bs, 0, none⟩)]) rfl (fun _ _ => rfl) (each_gen Bs D m1 c1 s hm1) (fun _ => rfl)
    (fun B pre V => J B (pick p pre) V ∧ Own2 W.heap.size w2 V ∧ B ≤ V.heap.size)
    (fun V => X V)
    (fun B pre V V' h hb => ⟨JB.out _ _ _ _ h.1 hb, h.2.1.below hb, Nat.le_trans h.2.2 hb.size⟩)
    (fun B pre V V' h9 h ho hg hB => ⟨JO.out _ _ _ _ _ h.1 ho (by have := B1.out.size; omega) hB, h.2.1.only ho (by omega), Nat.le_trans h.2.2 ho.size⟩)
    (fun B pre V o hB h => ⟨JO.out _ _ _ _ _ h.1 (only_putObj _ _ _) (by have := B1.out.size; omega) (by omega), h.2.1.put (by omega), by simpa using h.2.2⟩)
    (fun V o h => XO'.out _ _ _ h (only_putObj _ _ _) (by have := B1.out.size; omega))
    (fun V V' g h ho hg => XO'.out _ _ _ h ho (by have := B1.out.size; omega))
    (fun B pre V h => ⟨h.2.1.blk K1.out LBS.out, rowV_seg R1.out F1.out h.2.1.same h.2.1.size⟩)
    (fun V hb => ⟨K1.out.below hb, R1.out.below hb⟩)
    (fun B V hB hV hb => ⟨H0.out _ _ (by have := B1.out.size; omega) hV (step_ B1.out hb), ⟨fun k _ h2 => hb.block k h2, hb.size⟩, hV⟩)
    (fun B pre x a' V => ∃ g4 g5, a' = { tmps := #[.func (.yield l) #[] #[], .pointer (some ⟨g2, 0, none⟩), .pointer (some ⟨g3, 0, none⟩), .pointer (some ⟨W.heap.size, 0, none⟩), .pointer (some ⟨g4, 0, none⟩), .pointer (some ⟨g5, 0, none⟩), .slice A n cap, .func (.func 75) #[] #[.pointer (some ⟨Bs, 0, none⟩)], .agg x.k.cells.toArray, .agg x.v.cells.toArray, undef, undef, undef, undef, undef, undef, undef, undef, undef, undef, undef, undef, undef, undef, undef], defers := [] } ∧ B ≤ g4 ∧ B ≤ g5 ∧ Blk V g4 53 x.k.cells ∧ Blk V g5 56 x.v.cells ∧ J B (pick p pre) V ∧ Own2 W.heap.size w2 V ∧ B ≤ V.heap.size)
    (fun B pre x a' V o hB h => by
      obtain ⟨g4, g5, e, l4, l5, k4, k5, hj, ho, hv⟩ := h
      exact ⟨g4, g5, e, l4, l5, blk_put k4 (by omega), blk_put k5 (by omega), JO.out _ _ _ _ _ hj (only_putObj _ _ _) (by have := B1.out.size; omega) (by omega), ho.put (by omega), by simpa using hv⟩)
    ?assign ?body ?done ?stop
  case assign =>
    intro l2 B pre x V K hnx hi hB hB2 hlt hK
    have XO := Lib.hid (ST.out.ok x (by obtain ⟨rest, e⟩ := hnx; rw [e]; simp))
    have HI := Lib.hid hi
    have Z1 := Lib.hid (blk_alloc V 53 kzero.cells)
    have hz := zero27
    have hz2 := zero30
    clear hi hnx
    simp only [encP, List.zip_toArray, List.zip_cons_cons, List.zip_nil_right, List.foldl_toArray', List.foldl_cons, List.foldl_nil, List.size_toArray, List.length_cons, List.length_nil, List.setIfInBounds_toArray, List.set_cons_zero, List.set_cons_succ]
    gi_wp2_with (first
      | (refine in_plain (wide_in l2) rfl (by intro c h; cases h) ?_; refine wpList_store_ky rfl _ _ rfl V.heap.size kzero x.k rfl rfl Z1.out kzero_ok.ml XO.out.k.ml ?_; intro V1 N1 O1; have Z2 := Lib.hid (blk_alloc V1 56 vzero.cells); have BV := Lib.hid (box_below O1.out); refine in_done ?_)
      | (refine in_plain (wide_in l2) rfl (by intro c h; cases h) ?_; refine wpList_store_vl rfl _ _ rfl V1.heap.size vzero x.v rfl rfl Z2.out rfl XO.out.v.tl ?_; intro V2 N2 O2; refine in_done ?_))
    have QQ := box_below O2.out
    have Q3 := step_ BV.out QQ
    obtain ⟨h1, h2, h3⟩ := HI.out
    exact hK _ _ Q3 ⟨_, _, rfl, hB2, Nat.le_trans hB2 BV.out.size, N1.out.below QQ, N2.out, JB.out _ _ _ _ h1 Q3, h2.below Q3, Nat.le_trans h3 Q3.size⟩
  case body =>
    intro l2 B pre x a' V hnx hax hB hB2 hlt
    obtain ⟨g4, g5, rfl, l4, l5, k4, k5, hj, ho, hv⟩ := hax
    have XO := Lib.hid (ST.out.ok x (by obtain ⟨rest, e⟩ := hnx; rw [e]; simp))
    have NX := Lib.hid hnx
    have G4 := Lib.hid k4
    have G5 := Lib.hid k5
    have JJ := Lib.hid hj
    have OW := Lib.hid ho
    have HB := Lib.hid hB2
    have HBB := Lib.hid hB
    have B1S := Lib.hid B1.out.size
    have L4 := Lib.hid l4
    have L5 := Lib.hid l5
    have SN := Lib.hid (pick_snoc p pre x)
    have Y3 := Lib.hid (ho.blk Q1.out (Nat.le_refl _))
    have NN := Lib.hid (JN.out _ _ _ hj).2
    have c1 := k4.cell (kc0 x.k)
    have c2 := NN.out.1.cell (i := 0) rfl
    have c3 := Y3.out.cell (i := 0) rfl
    clear k4 k5 hj ho hnx hv hB hB2 l4 l5
    by_cases hs1 : x.k.s = 1
    · cases hp : p x.k x.v with
      | false =>
        have PN := Lib.hid (show pick p (pre ++ [x]) = pick p pre by rw [SN.out, if_neg (by simp [sel, hp])])
        have HP := Lib.hid hp
        clear hp
        gi_wp2_with (first
          | (refine in_skip (wide_in l2) rfl ?_)
          | (refine in_want rfl ?_; refine in_plain (wide_in l2) rfl (by intro c h; cases h) ?_; refine wpList_load_ky rfl _ rfl g4 0 x.k rfl G4.out.range XO.out.k.ml ?_; refine in_done ?_)
          | (refine in_want rfl ?_; refine in_plain (wide_in l2) rfl (by intro c h; cases h) ?_; refine wpList_load_vl rfl _ rfl g5 0 x.v rfl G5.out.range XO.out.v.tl ?_; refine in_done ?_))
        refine ⟨trivial, (calls_in (wide_in l2) (HC.out x.k x.v V XO.out.k XO.out.v NN.out.2)).mono ?_⟩
        rw [HP.out]
        rintro e W3 ⟨rfl, b3⟩
        have B3 := Lib.hid b3
        clear b3
        gi_wp2_with (refine in_skip (wide_in l2) rfl ?_)
        refine ⟨KeepL.below B3.out hlt, fun k _ h2 => B3.out.block k (Nat.lt_of_lt_of_le h2 HB.out), ?_⟩
        rw [PN.out]
        exact ⟨JB.out _ _ _ _ JJ.out B3.out, OW.out.below B3.out, Nat.le_trans HB.out B3.out.size⟩
      | true =>
        have PN := Lib.hid (show pick p (pre ++ [x]) = pick p pre ++ [x.k] by rw [SN.out, if_pos (by simp [sel, hs1, hp])])
        have NXK := Lib.hid (show NxK (pick p s) (pick p pre) x.k by obtain ⟨rest, e⟩ := NX.out; exact pick_nx e (by simp [sel, hs1, hp]))
        have HP := Lib.hid hp
        clear hp
        gi_wp2_with (first
          | (refine in_skip (wide_in l2) rfl ?_)
          | (refine in_want rfl ?_; refine in_plain (wide_in l2) rfl (by intro c h; cases h) ?_; refine wpList_load_ky rfl _ rfl g4 0 x.k rfl G4.out.range XO.out.k.ml ?_; refine in_done ?_)
          | (refine in_want rfl ?_; refine in_plain (wide_in l2) rfl (by intro c h; cases h) ?_; refine wpList_load_vl rfl _ rfl g5 0 x.v rfl G5.out.range XO.out.v.tl ?_; refine in_done ?_))
        refine ⟨trivial, (calls_in (wide_in l2) (HC.out x.k x.v V XO.out.k XO.out.v NN.out.2)).mono ?_⟩
        rw [HP.out]
        rintro e W3 ⟨rfl, b3⟩
        have B3 := Lib.hid b3
        have G43 := Lib.hid (G4.out.below b3)
        have c4 := (Y3.out.below b3).cell (i := 0) rfl
        obtain ⟨fn, tmps, assign, body, hy, hR⟩ := yield_any (HY.out B (pick p pre) x.k W3 NXK.out (JB.out _ _ _ _ JJ.out b3) (Nat.le_trans (Nat.le_trans B1S.out (Nat.le_add_right _ 2)) HBB.out) (Nat.le_trans HB.out b3.size)) 8 (some l2)
        clear b3
        gi_wp2_with (first
          | (refine in_skip (wide_in l2) rfl ?_)
          | (refine in_want rfl ?_; refine in_plain (wide_in l2) rfl (by intro c h; cases h) ?_; refine wpList_load_ky rfl _ rfl g4 0 x.k rfl G43.out.range XO.out.k.ml ?_; refine in_done ?_))
        refine hR.mono ?_
        rintro e W4 ⟨hs4, hk4, (⟨rfl, hJ4⟩ | ⟨rfl, hX4⟩)⟩
        · have J4 := Lib.hid hJ4
          have S4 := Lib.hid hs4
          have K4 := Lib.hid hk4
          clear hJ4 hs4 hk4 hR hy
          gi_wp2_with (refine in_skip (wide_in l2) rfl ?_)
          have hB0 := HBB.out
          have hB1 := B1S.out
          have hz3 := B3.out.size
          have hz4 := S4.out
          have hz5 := HB.out
          refine ⟨⟨by omega, ?_, ?_⟩, fun k h1 h2 => (K4.out k (by omega) h2).trans (B3.out.block k (by omega)), ?_, ⟨fun k h1 h2 => ?_, ?_⟩, by omega⟩
          · exact (K4.out _ (by omega) (by omega)).trans (B3.out.block _ (by omega))
          · exact (K4.out _ (by omega) (by omega)).trans (B3.out.block _ (by omega))
          · rw [PN.out]; exact J4.out
          · exact (K4.out _ h1 (by omega)).trans ((B3.out.block _ (by omega)).trans (OW.out.same k h1 h2))
          · omega
        · have X4 := Lib.hid hX4
          have S4 := Lib.hid hs4
          have K4 := Lib.hid hk4
          clear hX4 hs4 hk4 hR hy
          gi_wp2_with (refine in_skip (wide_in l2) rfl ?_)
          have hB0 := HBB.out
          have hB1 := B1S.out
          have hz3 := B3.out.size
          have hz4 := S4.out
          have hz5 := HB.out
          refine ⟨⟨by omega, ?_, ?_⟩, fun k h1 h2 => (K4.out k (by omega) h2).trans (B3.out.block k (by omega)), X4.out⟩
          · exact (K4.out _ (by omega) (by omega)).trans (B3.out.block _ (by omega))
          · exact (K4.out _ (by omega) (by omega)).trans (B3.out.block _ (by omega))
    · have PN := Lib.hid (show pick p (pre ++ [x]) = pick p pre by rw [SN.out, if_neg (by simp [sel, hs1])])
      have hbs : (x.k.s == 1) = false := by simpa using hs1
      gi_wp2_with (refine in_skip (wide_in l2) rfl ?_)
      refine ⟨KeepL.refl _ _, ?_⟩
      rw [PN.out]
      exact ⟨JJ.out, OW.out, HB.out⟩
  case done =>
    intro D9 B t V hD hD2 hB hf hi hd
    subst hf
    have JJ := Lib.hid hi.1
    have HD := Lib.hid hd
    have LD := Lib.hid (show W.heap.size ≤ D9 ∧ D9 < B by have := B1.out.size; omega)
    clear hi hd HY
    show bodyPostM Fence.wide 10 Tryz.prog Tryz.f71 _ .ret _ V
    refine marks_ret D9 rfl HD.out (results_none rfl _ _ _) ?_
    exact ⟨⟨_, rfl⟩, .inl ⟨_, B, by rw [NE.out], JO.out _ _ _ _ _ JJ.out (only_putObj _ _ _) LD.out.1 LD.out.2⟩⟩
  case stop =>
    intro D9 V hD hx hd
    have HX := Lib.hid hx
    have HD := Lib.hid hd
    clear hx hd HY
    gi_wp2_with fail
    refine marks_ret D9 rfl HD.out (results_none rfl _ _ _) ?_
    exact ⟨⟨_, rfl⟩, .inr (XO'.out _ _ _ HX.out (only_putObj _ _ _) (by have := B1.out.size; omega))⟩
end Go.Proofs.YtijfbhdbfplghaaGreat
namespace Go.Proofs.YtijfbhdbfplghaaGreat
open Go.RowKit Go.Shelf
attribute [local go_sem] Oper.semAt_some
/-- The call answers a row of keys of its own. -/
def GivesKs (w : World) (L : List Ky) (e : Ending) (w' : World) : Prop := (∃ v, e = .returned v ∧ OwnG EK w' w.heap.size v L) ∧ Below w.heap.size w w'
set_option maxRecDepth 100000 in
set_option maxHeartbeats 4000000 in
theorem present_is (A : Option Addr) (n cap : Nat) (a : List Am) (c : Int) (m : List Int) (b : Bool) (w : World) (h : RowV w A n cap a) (hn : n ≤ 600) (hm : m.length = 8) (hb : Hid (presT a c m = b)) : Calls Tryz.prog 26 #[.slice A n cap, .int .u16 c, .agg (nm m)] w fun e w' => e = .returned (.bool b) ∧ Below w.heap.size w w' := by
  have LB := Lib.hid (show decide (0 < (liveT a c m).length) = b by rw [← pres_live h.ok]; exact hb.out)
  have H := Lib.hid h
  have HM := Lib.hid hm
  have R0 := Lib.hid ((blk_alloc w 25 (nmL m)).alloc (.cells #[.bool false] 4)).range
  have Q0 := Lib.hid (blk2 w (.cells (nm m) 25) 4 [.bool false])
  have B0 := Lib.hid (step_ (new_below w (.cells (nm m) 25)) (new_below _ (.cells #[.bool false] 4)))
  clear h hm hb
  refine (callsIn_wide (n := 10)).1 ?_
  refine callsIn_of_wp_marks Tryz.func26 rfl trivial ?_ rfl
  simp only [Tryz.ntmps26, List.size_toArray, List.length_cons, List.length_nil, Nat.reduceAdd, Nat.reduceSub, Array.replicate_succ, Array.replicate_zero, List.push_toArray, List.append_toArray, List.nil_append, List.cons_append]
  gi_wp2_with (refine in_plain wide_no rfl (by intro c h; cases h) ?_; refine wpList_load_nm rfl _ rfl w.heap.size 0 m rfl R0.out HM.out ?_; refine in_done ?_)
  refine ⟨trivial, (callsIn_wide.2 (tof_is c m _)).mono ?_⟩
  rintro e w1 ⟨⟨ga, gb, rfl, k1, k2, -, -⟩, b1⟩
  have K1 := Lib.hid k1
  have K2 := Lib.hid k2
  have B1 := Lib.hid (step_ B0.out b1)
  have Q1 := Lib.hid (Q0.out.below b1)
  clear k1 k2 b1 Q0
  gi_wp2_with fail
  refine ⟨trivial, (callsIn_wide.2 (there_is _ _ _)).mono ?_⟩
  rintro e w2 ⟨⟨gc, rfl, k3, -⟩, b2⟩
  have K3 := Lib.hid k3
  have K21 := Lib.hid (K1.out.below b2)
  have K22 := Lib.hid (K2.out.below b2)
  have B2 := Lib.hid (step_ B1.out b2)
  have Q2 := Lib.hid (Q1.out.below b2)
  clear k3 b2 Q1
  gi_wp2_with fail
  refine ⟨trivial, (callsIn_wide.2 (picks_is A n cap _ _ _)).mono ?_⟩
  rintro e w4 ⟨⟨gd, ge, rfl, k5, k6, -, -⟩, b4⟩
  have K5 := Lib.hid k5
  have K6 := Lib.hid k6
  have K4 := Lib.hid (K3.out.below b4)
  have K41 := Lib.hid (K21.out.below b4)
  have K42 := Lib.hid (K22.out.below b4)
  have B4 := Lib.hid (step_ B2.out b4)
  have Q4 := Lib.hid (Q2.out.below b4)
  have H4 := Lib.hid (H.out.below B4.out)
  have LT := Lib.hid (show w.heap.size + 1 < w4.heap.size from Q4.out.lt)
  clear k5 k6 b4 Q2 B2 B1 B0 H R0 K21 K22 K1 K2 K3
  gi_wp2_with fail
  rename_i K0 hK0
  refine range_gen (gf := 71) rfl (fun _ _ => rfl) (pick_seq 72 _ (fun _ _ => rfl) _ _ (there_cond (fun _ _ => rfl) (tof_cond c m HM.out ga gb) (fun V V' h hb => ⟨h.1.below hb, h.2.below hb⟩) gc) (fun V V' h hb => ⟨h.1.below hb, h.2.1.below hb, h.2.2.below hb⟩) _ _ A n cap a hn) (fun _ => rfl)
    (fun B pre V => pre = [] ∧ Below w4.heap.size w4 V)
    (fun V => Blk V (w.heap.size + 1) 4 [.bool true] ∧ Below w.heap.size w V ∧ 0 < (liveT a c m).length)
    (fun B pre V V' h hb => ⟨h.1, h.2.trans (hb.mono h.2.size)⟩)
    (fun B pre V V' h9 h ho hg hB => ⟨h.1, h.2.trans (ho.below (by omega) h.2.size)⟩)
    (fun B pre V o hB h => ⟨h.1, below_put h.2 (by omega)⟩)
    (fun V o h => ⟨blk_put h.1 (by have := LT.out; omega), below_put h.2.1 (by have := LT.out; omega), h.2.2⟩)
    (fun V V' g h ho hg => ⟨h.1.only ho (by have := LT.out; omega), h.2.1.trans (ho.below (by have := LT.out; omega) h.2.1.size), h.2.2⟩)
    (fun B pre V h => ⟨⟨K5.out.below h.2, H4.out.below h.2⟩, K6.out.below h.2, K4.out.below h.2, K41.out.below h.2, K42.out.below h.2⟩)
    (fun V hb => ⟨⟨K5.out.below hb, H4.out.below hb⟩, K6.out.below hb, K4.out.below hb, K41.out.below hb, K42.out.below hb⟩)
    (fun B V hB hV hb => ⟨rfl, hb⟩)
    (fun B pre x a' V => a' = { tmps := #[.slice A n cap, .int .u16 c, .agg (nm m), undef, undef, .pointer (some ⟨w.heap.size, 0, none⟩), .pointer (some ⟨w.heap.size + 1, 0, none⟩), .slice A n cap, .int .u16 c, .agg (nm m), .func (.func 73) #[] #[.pointer (some ⟨ga, 0, none⟩), .pointer (some ⟨gb, 0, none⟩)], .func (.func 72) #[] #[.pointer (some ⟨gc, 0, none⟩)], .func (.func 71) #[] #[.pointer (some ⟨gd, 0, none⟩), .pointer (some ⟨ge, 0, none⟩)], .agg x.cells.toArray], defers := [] } ∧ pre = [] ∧ Below w4.heap.size w4 V)
    (fun B pre x a' V o hB h => by
      obtain ⟨e, h1, h2⟩ := h
      exact ⟨e, h1, below_put h2 (by omega)⟩)
    ?assign ?body ?done ?stop
  case assign =>
    intro l B pre x V K hnx hi hB hB2 hlt hK
    simp only [encK, List.zip_toArray, List.zip_cons_cons, List.zip_nil_right, List.foldl_toArray', List.foldl_cons, List.foldl_nil, List.size_toArray, List.length_cons, List.length_nil, List.setIfInBounds_toArray, List.set_cons_zero, List.set_cons_succ]
    gi_wp2_with fail
    exact hK _ _ (Below.refl _ _) ⟨rfl, hi.1, hi.2⟩
  case body =>
    intro l B pre x a' V hnx hax hB hB2 hlt
    obtain ⟨rfl, hp, hb⟩ := hax
    have LL := Lib.hid (show 0 < (liveT a c m).length by obtain ⟨rest, e⟩ := hnx; exact List.length_pos_of_mem (show x ∈ pick (pth (pof c m)) (norm a) by rw [e]; simp))
    have HB := Lib.hid hb
    have QV := Lib.hid (Q4.out.below hb)
    have HLT := Lib.hid hlt
    have LW := Lib.hid (show w4.heap.size ≤ V.heap.size by omega)
    clear hp hb hnx
    gi_wp2_with (refine in_plain (wide_in l) rfl (by intro c h; cases h) ?_; refine wpList_store_b rfl _ _ rfl (w.heap.size + 1) (.bool false) true rfl rfl QV.out ?_; intro w5 N5 O5; refine in_done ?_)
    have hlt0 := LT.out
    exact ⟨KeepL.only O5.out (by omega) (by omega) HLT.out, fun k h1 h2 => O5.out.block k (by omega) (by omega), N5.out, (B4.out.trans (HB.out.mono B4.out.size)).trans (O5.out.below (by omega) (Nat.le_trans B4.out.size LW.out)), LL.out⟩
  case done =>
    intro D9 B t V hD hD2 hB hf hi hd
    obtain ⟨hi1, hi2⟩ := hi
    have LF := Lib.hid (show false = b by
      rw [← LB.out]
      have e : liveT a c m = [] := hf.symm.trans hi1
      rw [e]; rfl)
    have HB := Lib.hid hi2
    have QV := Lib.hid (Q4.out.below hi2)
    have HD := Lib.hid hd
    have LD := Lib.hid hD
    clear hi1 hi2 hf hd
    refine hK0 _ _ ?_
    gi_wp2_with (refine in_plain wide_no rfl (by intro c h; cases h) ?_; refine wpList_store_b rfl _ _ rfl (w.heap.size + 1) (.bool false) false rfl rfl QV.out ?_; intro w5 N5 O5; refine in_done ?_)
    have hlt0 := LT.out
    have hz := HB.out.size
    have hz2 := LD.out
    have N6 := Lib.hid (blk_put (o := .deferred none) (i := D9) N5.out (by omega))
    refine marks_ret D9 rfl ((O5.out.block D9 (Array.getElem?_eq_some_iff.1 HD.out).1 (by omega)).trans HD.out) (results_bool rfl _ _ (w.heap.size + 1) false rfl N6.out) ?_
    refine ⟨by rw [LF.out], below_put ((B4.out.trans (HB.out.mono B4.out.size)).trans (O5.out.below (by omega) (Nat.le_trans B4.out.size hz))) (by have := B4.out.size; omega)⟩
  case stop =>
    intro D9 V hD hx hd
    have HX := Lib.hid hx.1
    have HB := Lib.hid hx.2.1
    have LF := Lib.hid (show true = b by rw [← LB.out, decide_eq_true hx.2.2])
    have HD := Lib.hid hd
    have LD := Lib.hid hD
    clear hx hd
    gi_wp2_with fail
    have hlt0 := LT.out
    have hz2 := LD.out
    have N6 := Lib.hid (blk_put (o := .deferred none) (i := D9) HX.out (by omega))
    refine marks_ret D9 rfl HD.out (results_bool rfl _ _ (w.heap.size + 1) true rfl N6.out) ?_
    exact ⟨by rw [LF.out], below_put HB.out (by have := B4.out.size; omega)⟩
end Go.Proofs.YtijfbhdbfplghaaGreat
