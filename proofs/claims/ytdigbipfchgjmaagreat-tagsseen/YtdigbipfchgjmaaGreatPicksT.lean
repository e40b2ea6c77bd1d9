/- The contracts of Seen, Live and Present of package tags. -/
import Derived.Test.YtdigbipfchgjmaaGreatPickS
namespace Go.Proofs.YtdigbipfchgjmaaGreat
open Go.RowKit Go.Shelf
attribute [local go_sem] Oper.semAt_some

/-- The call answers a row of keys of its own. -/
def GivesKs (w : World) (L : List Ky) (e : Ending) (w' : World) : Prop := (∃ v, e = .returned v ∧ OwnG EK w' w.heap.size v L) ∧ Below w.heap.size w w'
theorem nx_len {L pre : List Ky} {x : Ky} {M : Nat} (h : NxK L pre x) (hL : ∀ k ∈ L, k.Ok) (hM : L.length ≤ M) : x.Ok ∧ pre.length < M := by
  obtain ⟨rest, e⟩ := h
  refine ⟨hL x (by rw [e]; simp), ?_⟩
  rw [e, List.length_append, List.length_cons] at hM
  omega
set_option maxRecDepth 100000 in
/-- Collect over the picked tags of a row. -/
theorem collect_pick (gf : Nat) (lb : Array Value) (eg : ∀ args w, (callFunc gf args).run Tryz.prog w = .ok (.enter gf args) w) (NC : World → Prop) (p : Ky → Vl → Bool) (hc : CondF gf lb NC p) (hNb : ∀ V V', NC V → Below V.heap.size V V' → NC V')
    (g2 g3 : Nat) (A : Option Addr) (n cap : Nat) (a : List Am) (hn : n ≤ 600) (w : World) (h2 : Blk w g2 22 [.slice A n cap]) (hr : RowV w A n cap a) (h3 : Blk w g3 65 [.func (.func gf) #[] lb]) (h4 : NC w) :
    Calls Tryz.prog 28 #[.func (.func 45) #[] #[.pointer (some ⟨g2, 0, none⟩), .pointer (some ⟨g3, 0, none⟩)]] w (GivesKs w (pick p (norm a))) := by
  have hok := pick_ok (p := p) (norm_st hr.ok).ok
  have hlen : (pick p (norm a)).length ≤ 4000 := by
    have := pick_len p (norm a)
    have := norm_len a
    have := hr.len
    omega
  refine (collectK_is 45 _ _ _ _ (pick p (norm a)).length w (fun _ _ => rfl) (pick_seq gf lb eg NC p hc hNb g2 g3 A n cap a hn) (fun V hb => ⟨⟨h2.below hb, hr.below hb⟩, h3.below hb, hNb _ _ h4 hb⟩) hlen (fun pre x hx => nx_len hx hok (Nat.le_refl _))).mono ?_
  rintro e w1 ⟨⟨v, s, rfl, hs, ho⟩, hb⟩
  subst hs
  exact ⟨⟨v, rfl, ho⟩, hb⟩
set_option maxRecDepth 100000 in
theorem seen_is (A : Option Addr) (n cap : Nat) (a : List Am) (c : Int) (m : List Int) (w : World) (h : RowV w A n cap a) (hn : n ≤ 600) (hm : m.length = 8) : Calls Tryz.prog 9 #[.slice A n cap, .int .u16 c, .agg (nm m)] w (GivesKs w (seenT a c m)) := by
  have H := Lib.hid h
  have HM := Lib.hid hm
  have R0 := Lib.hid (blk_alloc w 25 (nmL m)).range
  have B0 := Lib.hid (new_below w (.cells (nm m) 25))
  clear h hm
  go_enter Tryz.func9, Tryz.ntmps9
  go_wp2_with (refine wpList_load_nm rfl _ rfl w.heap.size 0 m rfl R0.out HM.out ?_)
  refine (of_is c m _).mono ?_
  rintro e w1 ⟨⟨ga, gb, rfl, k1, k2, _, _⟩, b1⟩
  have K1 := Lib.hid k1
  have K2 := Lib.hid k2
  have B1 := Lib.hid (step_ B0.out b1)
  clear k1 k2 b1
  go_wp2_with fail
  refine (picks_is A n cap _ _ _).mono ?_
  rintro e w2 ⟨⟨gc, gd, rfl, k3, k4, _, _⟩, b2⟩
  have K3 := Lib.hid k3
  have K4 := Lib.hid k4
  have B2 := Lib.hid b2
  clear k3 k4 b2
  go_wp2_with fail
  refine (collect_pick 47 _ (fun _ _ => rfl) _ _ (of_cond c m HM.out _ _) (fun V V' h hb => ⟨h.1.below hb, h.2.below hb⟩) _ _ A n cap a hn _ K3.out (H.out.below (step_ B1.out B2.out)) K4.out ⟨K1.out.below B2.out, K2.out.below B2.out⟩).mono ?_
  rintro e w3 ⟨⟨v, rfl, o3⟩, b3⟩
  have O3 := Lib.hid o3
  have B3 := Lib.hid b3
  clear o3 b3
  go_wp2_with fail
  go_ret
  exact ⟨⟨_, rfl, O3.out.down (step_ B1.out B2.out).size⟩, step_ (step_ B1.out B2.out) B3.out⟩
set_option maxRecDepth 100000 in
theorem live_is (A : Option Addr) (n cap : Nat) (a : List Am) (c : Int) (m : List Int) (w : World) (h : RowV w A n cap a) (hn : n ≤ 600) (hm : m.length = 8) : Calls Tryz.prog 11 #[.slice A n cap, .int .u16 c, .agg (nm m)] w (GivesKs w (liveT a c m)) := by
  have H := Lib.hid h
  have HM := Lib.hid hm
  have R0 := Lib.hid (blk_alloc w 25 (nmL m)).range
  have B0 := Lib.hid (new_below w (.cells (nm m) 25))
  clear h hm
  go_enter Tryz.func11, Tryz.ntmps11
  go_wp2_with (refine wpList_load_nm rfl _ rfl w.heap.size 0 m rfl R0.out HM.out ?_)
  refine (of_is c m _).mono ?_
  rintro e w1 ⟨⟨ga, gb, rfl, k1, k2, _, _⟩, b1⟩
  have K1 := Lib.hid k1
  have K2 := Lib.hid k2
  have B1 := Lib.hid (step_ B0.out b1)
  clear k1 k2 b1
  go_wp2_with fail
  refine (there_is _ _ _).mono ?_
  rintro e w2 ⟨⟨gc, rfl, k3, _⟩, b2⟩
  have K3 := Lib.hid k3
  have K21 := Lib.hid (K1.out.below b2)
  have K22 := Lib.hid (K2.out.below b2)
  have B2 := Lib.hid (step_ B1.out b2)
  clear k3 b2
  go_wp2_with fail
  refine (picks_is A n cap _ _ _).mono ?_
  rintro e w4 ⟨⟨gd, ge, rfl, k5, k6, _, _⟩, b4⟩
  have K5 := Lib.hid k5
  have K6 := Lib.hid k6
  have B4 := Lib.hid b4
  clear k5 k6 b4
  go_wp2_with fail
  refine (collect_pick 48 _ (fun _ _ => rfl) _ _ (there_cond (fun _ _ => rfl) (of_cond c m HM.out _ _) (fun V V' h hb => ⟨h.1.below hb, h.2.below hb⟩) _) (fun V V' h hb => ⟨h.1.below hb, h.2.1.below hb, h.2.2.below hb⟩) _ _ A n cap a hn _ K5.out (H.out.below (step_ B2.out B4.out)) K6.out ⟨K3.out.below B4.out, K21.out.below B4.out, K22.out.below B4.out⟩).mono ?_
  rintro e w3 ⟨⟨v, rfl, o3⟩, b3⟩
  have O3 := Lib.hid o3
  have B3 := Lib.hid b3
  clear o3 b3
  go_wp2_with fail
  go_ret
  exact ⟨⟨_, rfl, O3.out.down (step_ B2.out B4.out).size⟩, step_ (step_ B2.out B4.out) B3.out⟩
set_option maxRecDepth 100000 in
set_option maxHeartbeats 4000000 in
theorem present_is (A : Option Addr) (n cap : Nat) (a : List Am) (c : Int) (m : List Int) (b : Bool) (w : World) (h : RowV w A n cap a) (hn : n ≤ 600) (hm : m.length = 8) (hb : Hid (presT a c m = b)) : Calls Tryz.prog 12 #[.slice A n cap, .int .u16 c, .agg (nm m)] w fun e w' => e = .returned (.bool b) ∧ Below w.heap.size w w' := by
  have LB := Lib.hid (show decide (0 < (liveT a c m).length) = b by rw [← pres_live h.ok]; exact hb.out)
  have H := Lib.hid h
  have HM := Lib.hid hm
  have R0 := Lib.hid ((blk_alloc w 25 (nmL m)).alloc (.cells #[.bool false] 4)).range
  have Q0 := Lib.hid (blk2 w (.cells (nm m) 25) 4 [.bool false])
  have B0 := Lib.hid (step_ (new_below w (.cells (nm m) 25)) (new_below _ (.cells #[.bool false] 4)))
  clear h hm hb
  refine (callsIn_wide (n := 10)).1 ?_
  refine callsIn_of_wp_marks Tryz.func12 rfl trivial ?_ rfl
  simp only [Tryz.ntmps12, List.size_toArray, List.length_cons, List.length_nil, Nat.reduceAdd, Nat.reduceSub, Array.replicate_succ, Array.replicate_zero, List.push_toArray, List.append_toArray, List.nil_append, List.cons_append]
  gi_wp2_with (refine in_plain wide_no rfl (by intro c h; cases h) ?_; refine wpList_load_nm rfl _ rfl w.heap.size 0 m rfl R0.out HM.out ?_; refine in_done ?_)
  refine ⟨trivial, (callsIn_wide.2 (of_is c m _)).mono ?_⟩
  rintro e w1 ⟨⟨ga, gb, rfl, k1, k2, -, -⟩, b1⟩
  have K1 := Lib.hid k1
  have K2 := Lib.hid k2
  have B1 := Lib.hid (step_ B0.out b1)
  have Q1 := Lib.hid (Q0.out.below b1)
  clear k1 k2 b1 Q0
  gi_wp2_with fail
  refine ⟨trivial, (callsIn_wide.2 (there_is _ _ _)).mono ?_⟩
  rintro e w2 ⟨⟨gc, rfl, k3, -⟩, b2⟩
  have K3 := Lib.hid k3
  have K21 := Lib.hid (K1.out.below b2)
  have K22 := Lib.hid (K2.out.below b2)
  have B2 := Lib.hid (step_ B1.out b2)
  have Q2 := Lib.hid (Q1.out.below b2)
  clear k3 b2 Q1
  gi_wp2_with fail
  refine ⟨trivial, (callsIn_wide.2 (picks_is A n cap _ _ _)).mono ?_⟩
  rintro e w4 ⟨⟨gd, ge, rfl, k5, k6, -, -⟩, b4⟩
  have K5 := Lib.hid k5
  have K6 := Lib.hid k6
  have K4 := Lib.hid (K3.out.below b4)
  have K41 := Lib.hid (K21.out.below b4)
  have K42 := Lib.hid (K22.out.below b4)
  have B4 := Lib.hid (step_ B2.out b4)
  have Q4 := Lib.hid (Q2.out.below b4)
  have H4 := Lib.hid (H.out.below B4.out)
  have LT := Lib.hid (show w.heap.size + 1 < w4.heap.size from Q4.out.lt)
  clear k5 k6 b4 Q2 B2 B1 B0 H R0 K21 K22 K1 K2 K3
  gi_wp2_with fail
  rename_i K0 hK0
  refine range_gen (gf := 45) rfl (fun _ _ => rfl) (pick_seq 48 _ (fun _ _ => rfl) _ _ (there_cond (fun _ _ => rfl) (of_cond c m HM.out ga gb) (fun V V' h hb => ⟨h.1.below hb, h.2.below hb⟩) gc) (fun V V' h hb => ⟨h.1.below hb, h.2.1.below hb, h.2.2.below hb⟩) _ _ A n cap a hn) (fun _ => rfl)
    (fun B pre V => pre = [] ∧ Below w4.heap.size w4 V)
    (fun V => Blk V (w.heap.size + 1) 4 [.bool true] ∧ Below w.heap.size w V ∧ 0 < (liveT a c m).length)
    (fun B pre V V' h hb => ⟨h.1, h.2.trans (hb.mono h.2.size)⟩)
    (fun B pre V V' h9 h ho hg hB => ⟨h.1, h.2.trans (ho.below (by omega) h.2.size)⟩)
    (fun B pre V o hB h => ⟨h.1, below_put h.2 (by omega)⟩)
    (fun V o h => ⟨blk_put h.1 (by have := LT.out; omega), below_put h.2.1 (by have := LT.out; omega), h.2.2⟩)
    (fun V V' g h ho hg => ⟨h.1.only ho (by have := LT.out; omega), h.2.1.trans (ho.below (by have := LT.out; omega) h.2.1.size), h.2.2⟩)
    (fun B pre V h => ⟨⟨K5.out.below h.2, H4.out.below h.2⟩, K6.out.below h.2, K4.out.below h.2, K41.out.below h.2, K42.out.below h.2⟩)
    (fun V hb => ⟨⟨K5.out.below hb, H4.out.below hb⟩, K6.out.below hb, K4.out.below hb, K41.out.below hb, K42.out.below hb⟩)
    (fun B V hB hV hb => ⟨rfl, hb⟩)
    (fun B pre x a' V => a' = { tmps := #[.slice A n cap, .int .u16 c, .agg (nm m), undef, undef, .pointer (some ⟨w.heap.size, 0, none⟩), .pointer (some ⟨w.heap.size + 1, 0, none⟩), .slice A n cap, .int .u16 c, .agg (nm m), .func (.func 47) #[] #[.pointer (some ⟨ga, 0, none⟩), .pointer (some ⟨gb, 0, none⟩)], .func (.func 48) #[] #[.pointer (some ⟨gc, 0, none⟩)], .func (.func 45) #[] #[.pointer (some ⟨gd, 0, none⟩), .pointer (some ⟨ge, 0, none⟩)], .agg x.cells.toArray], defers := [] } ∧ pre = [] ∧ Below w4.heap.size w4 V)
    (fun B pre x a' V o hB h => by
      obtain ⟨e, h1, h2⟩ := h
      exact ⟨e, h1, below_put h2 (by omega)⟩)
    ?assign ?body ?done ?stop
  case assign =>
    intro l B pre x V K hnx hi hB hB2 hlt hK
    simp only [encK, List.zip_toArray, List.zip_cons_cons, List.zip_nil_right, List.foldl_toArray', List.foldl_cons, List.foldl_nil, List.size_toArray, List.length_cons, List.length_nil, List.setIfInBounds_toArray, List.set_cons_zero, List.set_cons_succ]
    gi_wp2_with fail
    exact hK _ _ (Below.refl _ _) ⟨rfl, hi.1, hi.2⟩
  case body =>
    intro l B pre x a' V hnx hax hB hB2 hlt
    obtain ⟨rfl, hp, hb⟩ := hax
    have LL := Lib.hid (show 0 < (liveT a c m).length by obtain ⟨rest, e⟩ := hnx; exact List.length_pos_of_mem (show x ∈ pick (pth (pof c m)) (norm a) by rw [e]; simp))
    have HB := Lib.hid hb
    have QV := Lib.hid (Q4.out.below hb)
    have HLT := Lib.hid hlt
    have LW := Lib.hid (show w4.heap.size ≤ V.heap.size by omega)
    clear hp hb hnx
    gi_wp2_with (refine in_plain (wide_in l) rfl (by intro c h; cases h) ?_; refine wpList_store_b rfl _ _ rfl (w.heap.size + 1) (.bool false) true rfl rfl QV.out ?_; intro w5 N5 O5; refine in_done ?_)
    have hlt0 := LT.out
    exact ⟨KeepL.only O5.out (by omega) (by omega) HLT.out, fun k h1 h2 => O5.out.block k (by omega) (by omega), N5.out, (B4.out.trans (HB.out.mono B4.out.size)).trans (O5.out.below (by omega) (Nat.le_trans B4.out.size LW.out)), LL.out⟩
  case done =>
    intro D9 B t V hD hD2 hB hf hi hd
    obtain ⟨hi1, hi2⟩ := hi
    have LF := Lib.hid (show false = b by
      rw [← LB.out]
      have e : liveT a c m = [] := hf.symm.trans hi1
      rw [e]; rfl)
    have HB := Lib.hid hi2
    have QV := Lib.hid (Q4.out.below hi2)
    have HD := Lib.hid hd
    have LD := Lib.hid hD
    clear hi1 hi2 hf hd
    refine hK0 _ _ ?_
    gi_wp2_with (refine in_plain wide_no rfl (by intro c h; cases h) ?_; refine wpList_store_b rfl _ _ rfl (w.heap.size + 1) (.bool false) false rfl rfl QV.out ?_; intro w5 N5 O5; refine in_done ?_)
    have hlt0 := LT.out
    have hz := HB.out.size
    have hz2 := LD.out
    have N6 := Lib.hid (blk_put (o := .deferred none) (i := D9) N5.out (by omega))
    refine marks_ret D9 rfl ((O5.out.block D9 (Array.getElem?_eq_some_iff.1 HD.out).1 (by omega)).trans HD.out) (results_bool rfl _ _ (w.heap.size + 1) false rfl N6.out) ?_
    refine ⟨by rw [LF.out], below_put ((B4.out.trans (HB.out.mono B4.out.size)).trans (O5.out.below (by omega) (Nat.le_trans B4.out.size hz))) (by have := B4.out.size; omega)⟩
  case stop =>
    intro D9 V hD hx hd
    have HX := Lib.hid hx.1
    have HB := Lib.hid hx.2.1
    have LF := Lib.hid (show true = b by rw [← LB.out, decide_eq_true hx.2.2])
    have HD := Lib.hid hd
    have LD := Lib.hid hD
    clear hx hd
    gi_wp2_with fail
    have hlt0 := LT.out
    have hz2 := LD.out
    have N6 := Lib.hid (blk_put (o := .deferred none) (i := D9) HX.out (by omega))
    refine marks_ret D9 rfl HD.out (results_bool rfl _ _ (w.heap.size + 1) true rfl N6.out) ?_
    exact ⟨by rw [LF.out], below_put HB.out (by have := B4.out.size; omega)⟩
end Go.Proofs.YtdigbipfchgjmaaGreat
