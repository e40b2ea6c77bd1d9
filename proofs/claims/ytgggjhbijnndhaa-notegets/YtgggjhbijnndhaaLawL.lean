/- The walk of the law NoteLast. Written by wip/tools/nlast_r16.py. -/
import Derived.Test.YtgggjhbijnndhaaLawN
namespace Go.Proofs.Ytgggjhbijnndhaa
open Go.RowKit

/-- The two questions and the row that came in. -/
structure LW (A : Option Addr) (n cap : Nat) (a : List Am) (g1 g2 : Nat) (xs ys : List Value) (W : World) : Prop where
  x : Blk W g1 35 xs
  y : Blk W g2 35 ys
  r : RowV W A n cap a
theorem LW.below {A : Option Addr} {n cap : Nat} {a : List Am} {g1 g2 : Nat} {xs ys : List Value} {W W' : World} (h : LW A n cap a g1 g2 xs ys W) (hb : Below W.heap.size W W') : LW A n cap a g1 g2 xs ys W' := ⟨h.x.below hb, h.y.below hb, h.r.below hb⟩
set_option maxRecDepth 100000 in
set_option maxHeartbeats 32000000 in
theorem noteLast_is (A : Option Addr) (n cap : Nat) (a : List Am) (rx c : Int) (tx : List Int) (ry cy : Int) (ty : List Int) (w : World) (h : RowV w A n cap a) (hx : NOk tx) (hy : NOk ty) (hrx : 0 ≤ rx ∧ rx < 256) (hry : 0 ≤ ry ∧ ry < 256) (hcr : 0 ≤ c ∧ c < 65536) :
    Calls Try.prog 5 #[.slice A n cap, .agg (ask rx c tx).toArray, .agg (ask ry cy ty).toArray] w fun e w' => e = .returned (.bool true) ∧ Below w.heap.size w w' := by
  have H := Lib.hid h
  have HX := Lib.hid hx
  have HY := Lib.hid hy
  clear h hx hy
  by_cases hc : 40 < n
  · have hc' : decide ((40 : Int) < (n : Int)) = true := decide_eq_true (by omega)
    go_enter Try.func5, Try.ntmps5
    go_wp2_with (first | go_skip | (refine wpList_box_cs rfl _ rfl (ask rx c tx) rfl ?_; intro g1 w1 eg1 G1 b1) | (refine wpList_box_cs rfl _ rfl (ask ry cy ty) rfl ?_; intro g2 w2 eg2 G2 b2; have X2 := Lib.hid (step_ b1.out b2.out); have L2 := Lib.hid (LW.mk (G1.out.below b2.out) G2.out (H.out.below X2.out)); have ca0 := L2.out.x.cell (i := 0) rfl; have ca1 := L2.out.x.cell (i := 1) rfl; have R2 := Lib.hid (ask_nm L2.out.x)))
    clear ca0 ca1
    refine (alive_is w2).mono ?_
    rintro e wz ⟨rfl, bz⟩
    have WZ := Lib.hid (step_ X2.out bz)
    clear bz
    go_wp2_with go_skip
    go_ret
    exact ⟨rfl, WZ.out⟩
  have hc' : decide ((40 : Int) < (n : Int)) = false := decide_eq_false (by omega)
  have N40 := Lib.hid (show n ≤ 40 by omega)
  have hz := zero23
  obtain ⟨nn, hnn⟩ : ∃ z, vnum (noteV a c) = z := ⟨_, rfl⟩
  obtain ⟨e1, he1⟩ : ∃ z, noteE nn rx tx = z := ⟨_, rfl⟩
  obtain ⟨la, hla⟩ : ∃ z, putL a c rx tx = z := ⟨_, rfl⟩
  have HLA := Lib.hid hla
  have HE1 := Lib.hid (show noteE (vnum (noteV a c)) rx tx = e1 by rw [hnn]; exact he1)
  by_cases h1 : e1 = 0
  · subst h1
    have P1 := Lib.hid (noteE_zero he1)
    have NB := Lib.hid (show 0 ≤ nn ∧ nn < 4294967295 by have := vnum_r (noteV a c); have := P1.out.2.2; omega)
    have RB16 := Lib.hid (show 0 ≤ rx ∧ rx < 16 from ⟨hrx.1, P1.out.1⟩)
    have LA1 := Lib.hid (show la = [noteA c nn rx tx] by rw [← hla]; unfold putL; rw [if_pos HE1.out, hnn])
    have LAL := Lib.hid (show la.length = 1 by rw [LA1.out]; rfl)
    obtain ⟨one, hone⟩ : ∃ z, join a la = z := ⟨_, rfl⟩
    have ONE := Lib.hid hone
    have OL := Lib.hid (show one.length ≤ 41 by
      rw [← hone]; unfold join
      have h1 := norm_len (a ++ la)
      rw [List.length_append, LAL.out, H.out.len] at h1
      omega)
    have NV := Lib.hid (show ∀ d, noteV one d = if d = c then ⟨noteN nn rx, tx⟩ else noteV a d from fun d => by
      have := law_noted H.out.ok hcr hrx.1 HX.out HE1.out d
      rw [hnn] at this
      rw [← hone, LA1.out]; exact this)
    have HV1 := Lib.hid (show (noteV one c).t = tx ∧ vnum (noteV one c) = nn + 1 ∧ vrep (noteV one c) = rx by
      rw [NV.out, if_pos rfl]; exact ⟨rfl, vnum_noteN NB.out RB16.out, vrep_noteN RB16.out⟩)
    obtain ⟨t0, ht0⟩ : ∃ z, (noteV a c).t = z := ⟨_, rfl⟩
    obtain ⟨r0, hr0⟩ : ∃ z, vrep (noteV a c) = z := ⟨_, rfl⟩
    have HV0 := Lib.hid (show (noteV a c).t = t0 ∧ vnum (noteV a c) = nn ∧ vrep (noteV a c) = r0 from ⟨ht0, hnn, hr0⟩)
    have HT0 := Lib.hid (show t0.length = 8 by rw [← ht0]; exact (noteV_ok H.out.ok c).tl)
    obtain ⟨c2, hc2⟩ : ∃ z, (c + 1) % 65536 = z := ⟨_, rfl⟩
    have C2 := Lib.hid hc2
    have C2R := Lib.hid (show 0 ≤ c2 ∧ c2 < 65536 by omega)
    have C2N := Lib.hid (show ¬ c2 = c by omega)
    obtain ⟨t2, ht2⟩ : ∃ z, (noteV a c2).t = z := ⟨_, rfl⟩
    obtain ⟨n2, hn2⟩ : ∃ z, vnum (noteV a c2) = z := ⟨_, rfl⟩
    obtain ⟨r2, hr2⟩ : ∃ z, vrep (noteV a c2) = z := ⟨_, rfl⟩
    have HV2 := Lib.hid (show (noteV a c2).t = t2 ∧ vnum (noteV a c2) = n2 ∧ vrep (noteV a c2) = r2 from ⟨ht2, hn2, hr2⟩)
    have HV3 := Lib.hid (show (noteV one c2).t = t2 ∧ vnum (noteV one c2) = n2 ∧ vrep (noteV one c2) = r2 by
      rw [NV.out, if_neg C2N.out]; exact HV2.out)
    have HT2 := Lib.hid (show t2.length = 8 by rw [← ht2]; exact (noteV_ok H.out.ok c2).tl)
    have F1 := Lib.hid (show (!(tx == tx)) = false by simp)
    have F2 := Lib.hid (show (!(t2 == t2)) = false by simp)
    have hb1 : (nn + 1 != nn + 1) = false := by simp
    have hb2 : (rx != rx) = false := by simp
    have hb3 : (n2 != n2) = false := by simp
    have hb4 : (r2 != r2) = false := by simp
    obtain ⟨f, hf⟩ : ∃ z, noteE nn ry ty = z := ⟨_, rfl⟩
    obtain ⟨lb, hlb⟩ : ∃ z, putL a c ry ty = z := ⟨_, rfl⟩
    have HLB := Lib.hid hlb
    have HF0 := Lib.hid (show noteE (vnum (noteV a c)) ry ty = f by rw [hnn]; exact hf)
    have LB := Lib.hid (show lb.length ≤ 1 by rw [← hlb]; unfold putL; split <;> simp)
    clear he1 hla hone ht0 hr0 hc2 ht2 hn2 hr2 hlb
    go_enter Try.func5, Try.ntmps5
    go_wp2_with (first | go_skip | (refine wpList_box_cs rfl _ rfl (ask rx c tx) rfl ?_; intro g1 w1 eg1 G1 b1) | (refine wpList_box_cs rfl _ rfl (ask ry cy ty) rfl ?_; intro g2 w2 eg2 G2 b2; have X2 := Lib.hid (step_ b1.out b2.out); have L2 := Lib.hid (LW.mk (G1.out.below b2.out) G2.out (H.out.below X2.out)); have ca0 := L2.out.x.cell (i := 0) rfl; have ca1 := L2.out.x.cell (i := 1) rfl; have R2 := Lib.hid (ask_nm L2.out.x)) | (refine wpList_load_nm rfl _ rfl g1 2 tx rfl R2.out HX.out.1 ?_))
    refine (nput_is A n cap a rx c tx 0 la _ L2.out.r (by omega) HX.out hcr hrx HE1 HLA).mono ?_
    rintro e w3 ⟨⟨Aa, na, ca, rfl, va⟩, b3⟩
    have RA3 := Lib.hid va
    clear va ca0 ca1 R2
    have X3 := Lib.hid (step_ X2.out b3)
    have L3 := Lib.hid (L2.out.below b3)
    clear b3 X2 L2
    go_wp2_with fail
    refine (refJoin_is A Aa n na cap ca a la _ L3.out.r RA3.out (by omega) (by have := RA3.out.len; have := LAL.out; omega)).mono ?_
    rintro e w4 ⟨⟨Ao, no, co, rfl, vo⟩, b4⟩
    rw [ONE.out] at vo
    have RO4 := Lib.hid vo
    clear vo
    have X4 := Lib.hid (step_ X3.out b4)
    have L4 := Lib.hid (L3.out.below b4)
    clear b4 X3 L3
    have cx1 := L4.out.x.cell (i := 1) rfl
    go_wp2_with fail
    refine (get_at Ao no co one c tx (nn + 1) rx _ RO4.out (by have := RO4.out.len; have := OL.out; omega) hcr HV1).mono ?_
    rintro e w5 ⟨rfl, b5⟩
    clear cx1
    have X5 := Lib.hid (step_ X4.out b5)
    have L5 := Lib.hid (L4.out.below b5)
    have RO5 := Lib.hid (RO4.out.below b5)
    clear b5 X4 L4 RO4
    have Z5 := Lib.hid (blk_alloc w5 26 (nmL M.zero8))
    go_wp2_with (first
      | (refine wpList_store_nmz rfl _ _ rfl w5.heap.size tx rfl rfl Z5.out HX.out.1 ?_; intro w6 NA6 O6; have Y6 := Lib.hid (box_below O6.out); have X6 := Lib.hid (step_ X5.out Y6.out); have L6 := Lib.hid (L5.out.below Y6.out); have RO6 := Lib.hid (RO5.out.below Y6.out); have cx1 := L6.out.x.cell (i := 1) rfl))
    refine (get_at A n cap a c t0 nn r0 _ L6.out.r (by omega) hcr HV0).mono ?_
    rintro e w7 ⟨rfl, b7⟩
    clear cx1
    have X7 := Lib.hid (step_ X6.out b7)
    have L7 := Lib.hid (L6.out.below b7)
    have RO7 := Lib.hid (RO6.out.below b7)
    have NA7 := Lib.hid (NA6.out.below b7)
    clear b7 X6 L6 RO6 NA6
    have Z7 := Lib.hid (blk_alloc w7 26 (nmL M.zero8))
    go_wp2_with (first
      | go_skip
      | (refine wpList_store_nmz rfl _ _ rfl w7.heap.size t0 rfl rfl Z7.out HT0.out ?_; intro w8 NB8_8 O8; have Y8 := Lib.hid (box_below O8.out); have X8 := Lib.hid (step_ X7.out Y8.out); have L8 := Lib.hid (L7.out.below Y8.out); have RO8 := Lib.hid (RO7.out.below Y8.out); have NA8 := Lib.hid (NA7.out.below Y8.out); have cx0 := L8.out.x.cell (i := 0) rfl; have cx1 := L8.out.x.cell (i := 1) rfl; have Rx := Lib.hid (ask_nm L8.out.x))
      | (refine wpList_load_nm rfl _ rfl w5.heap.size 0 tx rfl NA8.out.range HX.out.1 ?_)
      | (refine wpList_load_nm rfl _ rfl g1 2 tx rfl Rx.out HX.out.1 ?_)
      | (refine wpList_val rfl _ (exec_neq_nm _ _ _ rfl tx tx rfl rfl HX.out.1 HX.out.1) ?_; rw [F1.out])
      | (refine wanted_on rfl ?_; refine wpList_val rfl _ (exec_add32 _ rfl nn rfl NB.out.1 NB.out.2) ?_)
      | (refine wpList_val rfl _ (exec_add16 _ rfl c c2 rfl C2.out) ?_))
    refine (get_at A n cap a c2 t2 n2 r2 _ L8.out.r (by omega) C2R.out HV2).mono ?_
    rintro e w9 ⟨rfl, b9⟩
    clear cx0 cx1 Rx
    have X9 := Lib.hid (step_ X8.out b9)
    have L9 := Lib.hid (L8.out.below b9)
    have RO9 := Lib.hid (RO8.out.below b9)
    clear b9 X8 L8 RO8
    have Z9 := Lib.hid (blk_alloc w9 26 (nmL M.zero8))
    go_wp2_with (first
      | (refine wpList_store_nmz rfl _ _ rfl w9.heap.size t2 rfl rfl Z9.out HT2.out ?_; intro w10 NC10 O10; have Y10 := Lib.hid (box_below O10.out); have X10 := Lib.hid (step_ X9.out Y10.out); have L10 := Lib.hid (L9.out.below Y10.out); have RO10 := Lib.hid (RO9.out.below Y10.out); have cx1 := L10.out.x.cell (i := 1) rfl)
      | (refine wpList_val rfl _ (exec_add16 _ rfl c c2 rfl C2.out) ?_))
    refine (get_at Ao no co one c2 t2 n2 r2 _ RO10.out (by have := RO10.out.len; have := OL.out; omega) C2R.out HV3).mono ?_
    rintro e w11 ⟨rfl, b11⟩
    clear cx1
    have X11 := Lib.hid (step_ X10.out b11)
    have L11 := Lib.hid (L10.out.below b11)
    have RO11 := Lib.hid (RO10.out.below b11)
    have NC11 := Lib.hid (NC10.out.below b11)
    clear b11 X10 L10 RO10 NC10
    have Z11 := Lib.hid (blk_alloc w11 26 (nmL M.zero8))
    go_wp2_with (first
      | go_skip
      | (refine wpList_store_nmz rfl _ _ rfl w11.heap.size t2 rfl rfl Z11.out HT2.out ?_; intro w12 ND12 O12; have Y12 := Lib.hid (box_below O12.out); have X12 := Lib.hid (step_ X11.out Y12.out); have L12 := Lib.hid (L11.out.below Y12.out); have RO12 := Lib.hid (RO11.out.below Y12.out); have NC12 := Lib.hid (NC11.out.below Y12.out); have cy0 := L12.out.y.cell (i := 0) rfl; have cx1 := L12.out.x.cell (i := 1) rfl; have Ry := Lib.hid (ask_nm L12.out.y))
      | (refine wpList_load_nm rfl _ rfl w9.heap.size 0 t2 rfl NC12.out.range HT2.out ?_)
      | (refine wpList_load_nm rfl _ rfl w11.heap.size 0 t2 rfl ND12.out.range HT2.out ?_)
      | (refine wpList_val rfl _ (exec_neq_nm _ _ _ rfl t2 t2 rfl rfl HT2.out HT2.out) ?_; rw [F2.out])
      | (refine wpList_load_nm rfl _ rfl g2 2 ty rfl Ry.out HY.out.1 ?_))
    refine (nput_is A n cap a ry c ty f lb _ L12.out.r (by omega) HY.out hcr hry HF0 HLB).mono ?_
    rintro e w13 ⟨⟨Ab, nb, cb, rfl, vb⟩, b13⟩
    have RB13 := Lib.hid vb
    clear vb cx1 cy0 Ry
    have X13 := Lib.hid (step_ X12.out b13)
    have L13 := Lib.hid (L12.out.below b13)
    have RO13 := Lib.hid (RO12.out.below b13)
    clear b13 X12 L12 RO12
    have cx0 := L13.out.x.cell (i := 0) rfl
    have cy0 := L13.out.y.cell (i := 0) rfl
    by_cases hf0 : f = 0
    · subst hf0
      by_cases hxy : rx = ry
      · have hq : (rx == ry) = true := by simp [hxy]
        clear hxy
        go_wp2_with go_skip
        clear cx0 cy0
        refine (alive_is w13).mono ?_
        rintro e wz ⟨rfl, bz⟩
        have WZ := Lib.hid (step_ X13.out bz)
        clear bz
        go_wp2_with go_skip
        go_ret
        exact ⟨rfl, WZ.out⟩
      · have hq : (rx == ry) = false := by simp [hxy]
        have P2 := Lib.hid (noteE_zero hf)
        have LB1 := Lib.hid (show lb = [noteA c nn ry ty] by rw [← HLB.out]; unfold putL; rw [if_pos HF0.out, hnn])
        have JL := Lib.hid (show (join a lb).length ≤ 41 by
          unfold join
          have h1 := norm_len (a ++ lb)
          rw [List.length_append, H.out.len] at h1
          have := LB.out; omega)
        have FL := Lib.hid (show (join (join a lb) one).length ≤ 82 by
          have h1 := norm_len (join a lb ++ one)
          rw [List.length_append] at h1
          have := JL.out; have := OL.out
          show (norm (join a lb ++ one)).length ≤ 82
          omega)
        have FV := Lib.hid (show noteV (join (join a lb) one) c = if ry < rx then ⟨noteN nn rx, tx⟩ else ⟨noteN nn ry, ty⟩ by
          have := law_later H.out.ok hcr hrx.1 hry.1 HX.out HY.out HE1.out HF0.out hxy
          rw [hnn] at this
          rw [← ONE.out, LB1.out, LA1.out]; exact this)
        obtain ⟨w15, ew15⟩ : ∃ z, z = w13 := ⟨_, rfl⟩
        subst ew15
        have L15 := Lib.hid L13.out
        have X15 := Lib.hid X13.out
        have bd := Lib.hid (show Below w15.heap.size w15 w15.drew from below_drew (Below.refl _ _))
        have L15b := Lib.hid (L13.out.below bd.out)
        have RB15b := Lib.hid (RB13.out.below bd.out)
        have RO15b := Lib.hid (RO13.out.below bd.out)
        have S0 := Lib.hid bd.out
        clear hxy
        by_cases hlt : ry < rx
        · have q1 : decide (ry < rx) = true := decide_eq_true hlt
          obtain ⟨tf, htf⟩ : ∃ z, z = tx := ⟨_, rfl⟩
          subst htf
          have HF := Lib.hid HX.out.1
          have TE := Lib.hid (show (tf == tf) = true by simp)
          obtain ⟨rf, hrf⟩ : ∃ z, z = rx := ⟨_, rfl⟩
          subst hrf
          have HVF := Lib.hid (show (noteV (join (join a lb) one) c).t = tf ∧ vnum (noteV (join (join a lb) one) c) = nn + 1 ∧ vrep (noteV (join (join a lb) one) c) = rf by
            rw [FV.out, if_pos hlt]; exact ⟨rfl, vnum_noteN NB.out RB16.out, vrep_noteN RB16.out⟩)
          have hb9 : (rf == rf) = true := by simp
          clear hlt hnn hf
          go_wp2_with go_skip
          clear cx0 cy0
          refine wp_region_noPanic ?_
          refine wp_region_held_drew (S := fun W => Below w15.heap.size w15 W) (by kernel_rfl) S0.out (fun _ => ?_)
          refine wpAnyH_take (i := 0) (oi := { dst := some 138, op := Go.Op.move (Go.Operand.tmp 0), type := 22, pos := _, after := #[], guard := none }) (v := ?_) rfl (by kernel_rfl) (by kernel_rfl) (by kernel_rfl) (fun _ _ _ h => h) (Or.inl ⟨by rfl, ?_⟩) S0.out ?_
          rotate_left
          · intro W hW; (go_simp; try with_reducible rfl)
          try simp only [Act.put, List.setIfInBounds_toArray, List.set_cons_zero, List.set_cons_succ]
          refine wpAnyH_take (i := 1) (oi := { dst := some 139, op := Go.Op.move (Go.Operand.tmp 22), type := 22, pos := _, after := #[], guard := none }) (v := ?_) rfl (by kernel_rfl) (by kernel_rfl) (by kernel_rfl) (fun _ _ _ h => h) (Or.inl ⟨by rfl, ?_⟩) S0.out ?_
          rotate_left
          · intro W hW; (go_simp; try with_reducible rfl)
          try simp only [Act.put, List.setIfInBounds_toArray, List.set_cons_zero, List.set_cons_succ]
          refine wpAnyH_take (i := 3) (oi := { dst := some 141, op := Go.Op.move (Go.Operand.tmp 9), type := 22, pos := _, after := #[], guard := none }) (v := ?_) rfl (by kernel_rfl) (by kernel_rfl) (by kernel_rfl) (fun _ _ _ h => h) (Or.inl ⟨by rfl, ?_⟩) S0.out ?_
          rotate_left
          · intro W hW; (go_simp; try with_reducible rfl)
          try simp only [Act.put, List.setIfInBounds_toArray, List.set_cons_zero, List.set_cons_succ]
          refine wpAnyH_take (i := 5) (oi := { dst := some 143, op := Go.Op.fieldAddr 35 (Go.Operand.tmp 4) 1, type := 0, pos := _, after := #[], guard := none }) (v := ?_) rfl (by kernel_rfl) (by kernel_rfl) (by kernel_rfl) (fun _ _ _ h => h) (Or.inl ⟨by rfl, ?_⟩) S0.out ?_
          rotate_left
          · intro W hW; (go_simp; try with_reducible rfl)
          try simp only [Act.put, List.setIfInBounds_toArray, List.set_cons_zero, List.set_cons_succ]
          refine wpAnyH_take (i := 6) (oi := { dst := some 144, op := Go.Op.load 23 (Go.Operand.tmp 143), type := 23, pos := _, after := #[{ on := 5, ground := Go.Ground.data }], guard := none }) (v := .int .u16 c) rfl (by kernel_rfl) (by kernel_rfl) (by kernel_rfl) (fun _ _ _ h => h) (Or.inl ⟨by rfl, fun W hW => exec_load_i Try.underlying23 (.tmp 143) rfl g1 1 c rfl ((L15.out.x.below hW).cell (i := 1) rfl)⟩) S0.out ?_
          try simp only [Act.put, List.setIfInBounds_toArray, List.set_cons_zero, List.set_cons_succ]
          refine wpAnyH_ready (rs := [2, 12]) (by kernel_rfl) (by simp) ?_
          refine AllReadyH.cons (o := { dst := some 140, op := Go.Op.call { callee := Go.Callee.value (Go.Operand.func 17), args := #[Go.Operand.tmp 138, Go.Operand.tmp 139], argTypes := #[22, 22] }, type := 22, pos := _, after := #[{ on := 0, ground := Go.Ground.data }, { on := 1, ground := Go.Ground.data }], guard := none }) rfl (fun K hK => ?_) ?_
          · go_simp
            refine (refJoin_is A Ab n nb cap cb a lb _ (L15b.out.r) RB15b.out (by omega) (by have := RB15b.out.len; have := LB.out; omega)).mono ?_
            rintro e w1 ⟨⟨Ax1, nx1, cx1, rfl, v1⟩, b1⟩
            have S1 := Lib.hid (step_ S0.out b1)
            have L_1 := Lib.hid (L15b.out.below b1)
            have RB_1 := Lib.hid (RB15b.out.below b1)
            have RO_1 := Lib.hid (RO15b.out.below b1)
            have RJ_1 := Lib.hid (v1)
            clear b1 v1
            go_wp2_with fail
            refine hK.out _ _ S1.out (fun _ => ?_)
            clear hK K
            try simp only [Act.put, List.setIfInBounds_toArray, List.set_cons_zero, List.set_cons_succ]
            refine wpAnyH_ready (rs := [4, 12]) (by kernel_rfl) (by simp) ?_
            refine AllReadyH.cons (o := { dst := some 142, op := Go.Op.call { callee := Go.Callee.value (Go.Operand.func 17), args := #[Go.Operand.tmp 140, Go.Operand.tmp 141], argTypes := #[22, 22] }, type := 22, pos := _, after := #[{ on := 2, ground := Go.Ground.data }, { on := 3, ground := Go.Ground.data }, { on := 2, ground := Go.Ground.chain }], guard := none }) rfl (fun K hK => ?_) ?_
            · go_simp
              refine (refJoin_is _ Ao _ no _ co (join a lb) one _ RJ_1.out RO_1.out (by have := RJ_1.out.len; have := JL.out; omega) (by have := RO_1.out.len; have := OL.out; omega)).mono ?_
              rintro e w2 ⟨⟨Ax2, nx2, cx2, rfl, v2⟩, b2⟩
              have S2 := Lib.hid (step_ S1.out b2)
              have L_2 := Lib.hid (L_1.out.below b2)
              have RB_2 := Lib.hid (RB_1.out.below b2)
              have RO_2 := Lib.hid (RO_1.out.below b2)
              have RJ_2 := Lib.hid (RJ_1.out.below b2)
              have RF_2 := Lib.hid (v2)
              clear b2 v2
              go_wp2_with fail
              refine hK.out _ _ S2.out (fun _ => ?_)
              clear hK K
              try simp only [Act.put, List.setIfInBounds_toArray, List.set_cons_zero, List.set_cons_succ]
              refine wpAnyH_ready (rs := [7, 12]) (by kernel_rfl) (by simp) ?_
              refine AllReadyH.cons (o := { dst := some 145, op := Go.Op.call { callee := Go.Callee.value (Go.Operand.func 7), args := #[Go.Operand.tmp 142, Go.Operand.tmp 144], argTypes := #[22, 23] }, type := 28, pos := _, after := #[{ on := 4, ground := Go.Ground.data }, { on := 6, ground := Go.Ground.data }, { on := 4, ground := Go.Ground.chain }], guard := none }) rfl (fun K hK => ?_) ?_
              · go_simp
                refine (get_at _ _ _ (join (join a lb) one) c tf (nn + 1) rf _ RF_2.out (by have := RF_2.out.len; have := FL.out; omega) hcr HVF).mono ?_
                rintro e w3 ⟨rfl, b3⟩
                have S3 := Lib.hid (step_ S2.out b3)
                have L_3 := Lib.hid (L_2.out.below b3)
                have RB_3 := Lib.hid (RB_2.out.below b3)
                have RO_3 := Lib.hid (RO_2.out.below b3)
                have RJ_3 := Lib.hid (RJ_2.out.below b3)
                have RF_3 := Lib.hid (RF_2.out.below b3)
                clear b3
                go_wp2_with fail
                refine hK.out _ _ S3.out (fun _ => ?_)
                clear hK K
                try simp only [Act.put, List.setIfInBounds_toArray, List.set_cons_zero, List.set_cons_succ]
                refine wpAnyH_take (i := 8) (oi := { dst := some 137, op := Go.Op.move (Go.Operand.tmp 145), type := 28, pos := _, after := #[{ on := 7, ground := Go.Ground.data }], guard := none }) (v := ?_) rfl (by kernel_rfl) (by kernel_rfl) (by kernel_rfl) (fun _ _ _ h => h) (Or.inl ⟨by rfl, ?_⟩) S3.out ?_
                rotate_left
                · intro W hW; (go_simp; try with_reducible rfl)
                try simp only [Act.put, List.setIfInBounds_toArray, List.set_cons_zero, List.set_cons_succ]
                refine wpAnyH_take (i := 9) (oi := { dst := some 146, op := Go.Op.extract (Go.Operand.tmp 137) 0, type := 26, pos := _, after := #[{ on := 8, ground := Go.Ground.data }], guard := none }) (v := ?_) rfl (by kernel_rfl) (by kernel_rfl) (by kernel_rfl) (fun _ _ _ h => h) (Or.inl ⟨by rfl, ?_⟩) S3.out ?_
                rotate_left
                · intro W hW; (go_simp; try with_reducible rfl)
                try simp only [Act.put, List.setIfInBounds_toArray, List.set_cons_zero, List.set_cons_succ]
                refine wpAnyH_take (i := 10) (oi := { dst := some 147, op := Go.Op.extract (Go.Operand.tmp 137) 1, type := 27, pos := _, after := #[{ on := 8, ground := Go.Ground.data }, { on := 13, ground := Go.Ground.gcOnly Go.Departure.lateStores }], guard := none }) (v := ?_) rfl (by kernel_rfl) (by kernel_rfl) (by kernel_rfl) (fun _ _ _ h => h) (Or.inl ⟨by rfl, ?_⟩) S3.out ?_
                rotate_left
                · intro W hW; (go_simp; try with_reducible rfl)
                try simp only [Act.put, List.setIfInBounds_toArray, List.set_cons_zero, List.set_cons_succ]
                refine wpAnyH_take (i := 11) (oi := { dst := some 148, op := Go.Op.extract (Go.Operand.tmp 137) 2, type := 5, pos := _, after := #[{ on := 8, ground := Go.Ground.data }, { on := 14, ground := Go.Ground.gcOnly Go.Departure.lateStores }], guard := none }) (v := ?_) rfl (by kernel_rfl) (by kernel_rfl) (by kernel_rfl) (fun _ _ _ h => h) (Or.inl ⟨by rfl, ?_⟩) S3.out ?_
                rotate_left
                · intro W hW; (go_simp; try with_reducible rfl)
                try simp only [Act.put, List.setIfInBounds_toArray, List.set_cons_zero, List.set_cons_succ]
                refine wpAnyH_ready (rs := [12]) (by kernel_rfl) (by simp) ?_
                refine ready_alloc26 (o := { dst := some 24, op := Go.Op.alloc 26, type := 0, pos := _, after := #[], guard := none }) rfl rfl rfl (fun ga wa4 ea4 Na4 b4 => ?_) AllReadyH.nil
                have S4 := Lib.hid (step_ S3.out b4)
                have L_4 := Lib.hid (L_3.out.below b4)
                have RB_4 := Lib.hid (RB_3.out.below b4)
                have RO_4 := Lib.hid (RO_3.out.below b4)
                have RJ_4 := Lib.hid (RJ_3.out.below b4)
                have RF_4 := Lib.hid (RF_3.out.below b4)
                have GA_4 := Lib.hid Na4
                have LG := Lib.hid (show w15.heap.size ≤ ga by have := S3.out.size; omega)
                clear b4 Na4 ea4
                refine ⟨S4.out, ?_⟩
                try simp only [Act.put, List.setIfInBounds_toArray, List.set_cons_zero, List.set_cons_succ]
                refine wpAnyH_ready (rs := [13]) (by kernel_rfl) (by simp) ?_
                refine ready_store_cs (o := { dst := none, op := Go.Op.store 26 (Go.Operand.tmp 24) (Go.Operand.tmp 146), type := 0, pos := _, after := #[{ on := 12, ground := Go.Ground.data }, { on := 9, ground := Go.Ground.data }, { on := 7, ground := Go.Ground.chain }, { on := 0, ground := Go.Ground.phase }, { on := 1, ground := Go.Ground.phase }, { on := 2, ground := Go.Ground.phase }, { on := 3, ground := Go.Ground.phase }, { on := 4, ground := Go.Ground.phase }, { on := 5, ground := Go.Ground.phase }, { on := 6, ground := Go.Ground.phase }, { on := 7, ground := Go.Ground.phase }, { on := 8, ground := Go.Ground.phase }, { on := 9, ground := Go.Ground.phase }, { on := 10, ground := Go.Ground.textOnly Go.Departure.lateStores }, { on := 11, ground := Go.Ground.textOnly Go.Departure.lateStores }, { on := 12, ground := Go.Ground.phase }], guard := none }) rfl rfl 26 (.tmp 24) (.tmp 146) rfl ga (nmL M.zero8) (nmL tf) rfl rfl GA_4.out (by unfold nmL; rw [List.length_map, List.length_map, HF.out]; rfl) (size_nmL HF.out) (nm_one tf) (fun W5 N5 O5 => ?_) AllReadyH.nil
                have M5 := Lib.hid N5
                have S5 := Lib.hid (S4.out.trans (O5.below LG.out S4.out.size))
                clear N5 O5
                refine ⟨S5.out, ?_⟩
                try simp only [Act.put]
                refine wpAnyH_take (i := 14) (oi := { dst := some 25, op := Go.Op.assign (Go.Operand.tmp 147), type := 27, pos := _, after := #[{ on := 10, ground := Go.Ground.data }, { on := 13, ground := Go.Ground.chain }, { on := 0, ground := Go.Ground.phase }, { on := 1, ground := Go.Ground.phase }, { on := 2, ground := Go.Ground.phase }, { on := 3, ground := Go.Ground.phase }, { on := 4, ground := Go.Ground.phase }, { on := 5, ground := Go.Ground.phase }, { on := 6, ground := Go.Ground.phase }, { on := 7, ground := Go.Ground.phase }, { on := 8, ground := Go.Ground.phase }, { on := 9, ground := Go.Ground.phase }, { on := 10, ground := Go.Ground.phase }, { on := 11, ground := Go.Ground.textOnly Go.Departure.lateStores }, { on := 12, ground := Go.Ground.phase }, { on := 13, ground := Go.Ground.phase }], guard := none }) (v := ?_) rfl (by kernel_rfl) (by kernel_rfl) (by kernel_rfl) (fun _ _ _ h => h) (Or.inl ⟨by rfl, ?_⟩) S5.out ?_
                rotate_left
                · intro W hW; (go_simp; try with_reducible rfl)
                try simp only [Act.put, List.setIfInBounds_toArray, List.set_cons_zero, List.set_cons_succ]
                refine wpAnyH_take (i := 15) (oi := { dst := some 26, op := Go.Op.assign (Go.Operand.tmp 148), type := 5, pos := _, after := #[{ on := 11, ground := Go.Ground.data }, { on := 14, ground := Go.Ground.chain }, { on := 0, ground := Go.Ground.phase }, { on := 1, ground := Go.Ground.phase }, { on := 2, ground := Go.Ground.phase }, { on := 3, ground := Go.Ground.phase }, { on := 4, ground := Go.Ground.phase }, { on := 5, ground := Go.Ground.phase }, { on := 6, ground := Go.Ground.phase }, { on := 7, ground := Go.Ground.phase }, { on := 8, ground := Go.Ground.phase }, { on := 9, ground := Go.Ground.phase }, { on := 10, ground := Go.Ground.phase }, { on := 11, ground := Go.Ground.phase }, { on := 12, ground := Go.Ground.phase }, { on := 13, ground := Go.Ground.phase }, { on := 14, ground := Go.Ground.phase }], guard := none }) (v := ?_) rfl (by kernel_rfl) (by kernel_rfl) (by kernel_rfl) (fun _ _ _ h => h) (Or.inl ⟨by rfl, ?_⟩) S5.out ?_
                rotate_left
                · intro W hW; (go_simp; try with_reducible rfl)
                try simp only [Act.put, List.setIfInBounds_toArray, List.set_cons_zero, List.set_cons_succ]
                refine wpAnyH_done (by kernel_rfl) ?_ _
                refine NoPanic.normal ?_
                have L16 := Lib.hid (L15.out.below S5.out)
                have cx0 := L16.out.x.cell (i := 0) rfl
                have cy0 := L16.out.y.cell (i := 0) rfl
                have Rx := Lib.hid (ask_nm L16.out.x)
                have Ry := Lib.hid (ask_nm L16.out.y)
                have X16 := Lib.hid (step_ X15.out S5.out)
                go_wp2_with (first
                  | go_skip
                  | (refine wanted_on rfl ?_; refine wpList_load_nm rfl _ rfl ga 0 tf rfl M5.out.range HF.out ?_)
                  | (refine wanted_on rfl ?_; refine wpList_load_nm rfl _ rfl g1 2 tf rfl Rx.out HF.out ?_)
                  | (refine wanted_on rfl ?_; refine wpList_val rfl _ (exec_eq_nm _ _ _ rfl tf tf rfl rfl HF.out HF.out) ?_; rw [TE.out]))
                refine (alive_is _).mono ?_
                rintro e wz ⟨rfl, bz⟩
                have WZ := Lib.hid (step_ X16.out bz)
                clear bz
                go_wp2_with fail
                go_ret
                exact ⟨rfl, WZ.out⟩
              refine ready_alloc26 (o := { dst := some 24, op := Go.Op.alloc 26, type := 0, pos := _, after := #[], guard := none }) rfl rfl rfl (fun ga wa6 ea6 Na6 b6 => ?_) AllReadyH.nil
              have S6 := Lib.hid (step_ S2.out b6)
              have L_6 := Lib.hid (L_2.out.below b6)
              have RB_6 := Lib.hid (RB_2.out.below b6)
              have RO_6 := Lib.hid (RO_2.out.below b6)
              have RJ_6 := Lib.hid (RJ_2.out.below b6)
              have RF_6 := Lib.hid (RF_2.out.below b6)
              have GA_6 := Lib.hid Na6
              have LG := Lib.hid (show w15.heap.size ≤ ga by have := S2.out.size; omega)
              clear b6 Na6 ea6
              refine ⟨S6.out, ?_⟩
              try simp only [Act.put, List.setIfInBounds_toArray, List.set_cons_zero, List.set_cons_succ]
              refine wpAnyH_ready (rs := [7]) (by kernel_rfl) (by simp) ?_
              refine AllReadyH.cons (o := { dst := some 145, op := Go.Op.call { callee := Go.Callee.value (Go.Operand.func 7), args := #[Go.Operand.tmp 142, Go.Operand.tmp 144], argTypes := #[22, 23] }, type := 28, pos := _, after := #[{ on := 4, ground := Go.Ground.data }, { on := 6, ground := Go.Ground.data }, { on := 4, ground := Go.Ground.chain }], guard := none }) rfl (fun K hK => ?_) AllReadyH.nil
              go_simp
              refine (get_at _ _ _ (join (join a lb) one) c tf (nn + 1) rf _ RF_6.out (by have := RF_6.out.len; have := FL.out; omega) hcr HVF).mono ?_
              rintro e w7 ⟨rfl, b7⟩
              have S7 := Lib.hid (step_ S6.out b7)
              have L_7 := Lib.hid (L_6.out.below b7)
              have RB_7 := Lib.hid (RB_6.out.below b7)
              have RO_7 := Lib.hid (RO_6.out.below b7)
              have RJ_7 := Lib.hid (RJ_6.out.below b7)
              have RF_7 := Lib.hid (RF_6.out.below b7)
              have GA_7 := Lib.hid (GA_6.out.below b7)
              clear b7
              go_wp2_with fail
              refine hK.out _ _ S7.out (fun _ => ?_)
              clear hK K
              try simp only [Act.put, List.setIfInBounds_toArray, List.set_cons_zero, List.set_cons_succ]
              refine wpAnyH_take (i := 8) (oi := { dst := some 137, op := Go.Op.move (Go.Operand.tmp 145), type := 28, pos := _, after := #[{ on := 7, ground := Go.Ground.data }], guard := none }) (v := ?_) rfl (by kernel_rfl) (by kernel_rfl) (by kernel_rfl) (fun _ _ _ h => h) (Or.inl ⟨by rfl, ?_⟩) S7.out ?_
              rotate_left
              · intro W hW; (go_simp; try with_reducible rfl)
              try simp only [Act.put, List.setIfInBounds_toArray, List.set_cons_zero, List.set_cons_succ]
              refine wpAnyH_take (i := 9) (oi := { dst := some 146, op := Go.Op.extract (Go.Operand.tmp 137) 0, type := 26, pos := _, after := #[{ on := 8, ground := Go.Ground.data }], guard := none }) (v := ?_) rfl (by kernel_rfl) (by kernel_rfl) (by kernel_rfl) (fun _ _ _ h => h) (Or.inl ⟨by rfl, ?_⟩) S7.out ?_
              rotate_left
              · intro W hW; (go_simp; try with_reducible rfl)
              try simp only [Act.put, List.setIfInBounds_toArray, List.set_cons_zero, List.set_cons_succ]
              refine wpAnyH_take (i := 10) (oi := { dst := some 147, op := Go.Op.extract (Go.Operand.tmp 137) 1, type := 27, pos := _, after := #[{ on := 8, ground := Go.Ground.data }, { on := 13, ground := Go.Ground.gcOnly Go.Departure.lateStores }], guard := none }) (v := ?_) rfl (by kernel_rfl) (by kernel_rfl) (by kernel_rfl) (fun _ _ _ h => h) (Or.inl ⟨by rfl, ?_⟩) S7.out ?_
              rotate_left
              · intro W hW; (go_simp; try with_reducible rfl)
              try simp only [Act.put, List.setIfInBounds_toArray, List.set_cons_zero, List.set_cons_succ]
              refine wpAnyH_take (i := 11) (oi := { dst := some 148, op := Go.Op.extract (Go.Operand.tmp 137) 2, type := 5, pos := _, after := #[{ on := 8, ground := Go.Ground.data }, { on := 14, ground := Go.Ground.gcOnly Go.Departure.lateStores }], guard := none }) (v := ?_) rfl (by kernel_rfl) (by kernel_rfl) (by kernel_rfl) (fun _ _ _ h => h) (Or.inl ⟨by rfl, ?_⟩) S7.out ?_
              rotate_left
              · intro W hW; (go_simp; try with_reducible rfl)
              try simp only [Act.put, List.setIfInBounds_toArray, List.set_cons_zero, List.set_cons_succ]
              refine wpAnyH_ready (rs := [13]) (by kernel_rfl) (by simp) ?_
              refine ready_store_cs (o := { dst := none, op := Go.Op.store 26 (Go.Operand.tmp 24) (Go.Operand.tmp 146), type := 0, pos := _, after := #[{ on := 12, ground := Go.Ground.data }, { on := 9, ground := Go.Ground.data }, { on := 7, ground := Go.Ground.chain }, { on := 0, ground := Go.Ground.phase }, { on := 1, ground := Go.Ground.phase }, { on := 2, ground := Go.Ground.phase }, { on := 3, ground := Go.Ground.phase }, { on := 4, ground := Go.Ground.phase }, { on := 5, ground := Go.Ground.phase }, { on := 6, ground := Go.Ground.phase }, { on := 7, ground := Go.Ground.phase }, { on := 8, ground := Go.Ground.phase }, { on := 9, ground := Go.Ground.phase }, { on := 10, ground := Go.Ground.textOnly Go.Departure.lateStores }, { on := 11, ground := Go.Ground.textOnly Go.Departure.lateStores }, { on := 12, ground := Go.Ground.phase }], guard := none }) rfl rfl 26 (.tmp 24) (.tmp 146) rfl ga (nmL M.zero8) (nmL tf) rfl rfl GA_7.out (by unfold nmL; rw [List.length_map, List.length_map, HF.out]; rfl) (size_nmL HF.out) (nm_one tf) (fun W5 N5 O5 => ?_) AllReadyH.nil
              have M5 := Lib.hid N5
              have S5 := Lib.hid (S7.out.trans (O5.below LG.out S7.out.size))
              clear N5 O5
              refine ⟨S5.out, ?_⟩
              try simp only [Act.put]
              refine wpAnyH_take (i := 14) (oi := { dst := some 25, op := Go.Op.assign (Go.Operand.tmp 147), type := 27, pos := _, after := #[{ on := 10, ground := Go.Ground.data }, { on := 13, ground := Go.Ground.chain }, { on := 0, ground := Go.Ground.phase }, { on := 1, ground := Go.Ground.phase }, { on := 2, ground := Go.Ground.phase }, { on := 3, ground := Go.Ground.phase }, { on := 4, ground := Go.Ground.phase }, { on := 5, ground := Go.Ground.phase }, { on := 6, ground := Go.Ground.phase }, { on := 7, ground := Go.Ground.phase }, { on := 8, ground := Go.Ground.phase }, { on := 9, ground := Go.Ground.phase }, { on := 10, ground := Go.Ground.phase }, { on := 11, ground := Go.Ground.textOnly Go.Departure.lateStores }, { on := 12, ground := Go.Ground.phase }, { on := 13, ground := Go.Ground.phase }], guard := none }) (v := ?_) rfl (by kernel_rfl) (by kernel_rfl) (by kernel_rfl) (fun _ _ _ h => h) (Or.inl ⟨by rfl, ?_⟩) S5.out ?_
              rotate_left
              · intro W hW; (go_simp; try with_reducible rfl)
              try simp only [Act.put, List.setIfInBounds_toArray, List.set_cons_zero, List.set_cons_succ]
              refine wpAnyH_take (i := 15) (oi := { dst := some 26, op := Go.Op.assign (Go.Operand.tmp 148), type := 5, pos := _, after := #[{ on := 11, ground := Go.Ground.data }, { on := 14, ground := Go.Ground.chain }, { on := 0, ground := Go.Ground.phase }, { on := 1, ground := Go.Ground.phase }, { on := 2, ground := Go.Ground.phase }, { on := 3, ground := Go.Ground.phase }, { on := 4, ground := Go.Ground.phase }, { on := 5, ground := Go.Ground.phase }, { on := 6, ground := Go.Ground.phase }, { on := 7, ground := Go.Ground.phase }, { on := 8, ground := Go.Ground.phase }, { on := 9, ground := Go.Ground.phase }, { on := 10, ground := Go.Ground.phase }, { on := 11, ground := Go.Ground.phase }, { on := 12, ground := Go.Ground.phase }, { on := 13, ground := Go.Ground.phase }, { on := 14, ground := Go.Ground.phase }], guard := none }) (v := ?_) rfl (by kernel_rfl) (by kernel_rfl) (by kernel_rfl) (fun _ _ _ h => h) (Or.inl ⟨by rfl, ?_⟩) S5.out ?_
              rotate_left
              · intro W hW; (go_simp; try with_reducible rfl)
              try simp only [Act.put, List.setIfInBounds_toArray, List.set_cons_zero, List.set_cons_succ]
              refine wpAnyH_done (by kernel_rfl) ?_ _
              refine NoPanic.normal ?_
              have L16 := Lib.hid (L15.out.below S5.out)
              have cx0 := L16.out.x.cell (i := 0) rfl
              have cy0 := L16.out.y.cell (i := 0) rfl
              have Rx := Lib.hid (ask_nm L16.out.x)
              have Ry := Lib.hid (ask_nm L16.out.y)
              have X16 := Lib.hid (step_ X15.out S5.out)
              go_wp2_with (first
                | go_skip
                | (refine wanted_on rfl ?_; refine wpList_load_nm rfl _ rfl ga 0 tf rfl M5.out.range HF.out ?_)
                | (refine wanted_on rfl ?_; refine wpList_load_nm rfl _ rfl g1 2 tf rfl Rx.out HF.out ?_)
                | (refine wanted_on rfl ?_; refine wpList_val rfl _ (exec_eq_nm _ _ _ rfl tf tf rfl rfl HF.out HF.out) ?_; rw [TE.out]))
              refine (alive_is _).mono ?_
              rintro e wz ⟨rfl, bz⟩
              have WZ := Lib.hid (step_ X16.out bz)
              clear bz
              go_wp2_with fail
              go_ret
              exact ⟨rfl, WZ.out⟩
            refine ready_alloc26 (o := { dst := some 24, op := Go.Op.alloc 26, type := 0, pos := _, after := #[], guard := none }) rfl rfl rfl (fun ga wa9 ea9 Na9 b9 => ?_) AllReadyH.nil
            have S9 := Lib.hid (step_ S1.out b9)
            have L_9 := Lib.hid (L_1.out.below b9)
            have RB_9 := Lib.hid (RB_1.out.below b9)
            have RO_9 := Lib.hid (RO_1.out.below b9)
            have RJ_9 := Lib.hid (RJ_1.out.below b9)
            have GA_9 := Lib.hid Na9
            have LG := Lib.hid (show w15.heap.size ≤ ga by have := S1.out.size; omega)
            clear b9 Na9 ea9
            refine ⟨S9.out, ?_⟩
            try simp only [Act.put, List.setIfInBounds_toArray, List.set_cons_zero, List.set_cons_succ]
            refine wpAnyH_ready (rs := [4]) (by kernel_rfl) (by simp) ?_
            refine AllReadyH.cons (o := { dst := some 142, op := Go.Op.call { callee := Go.Callee.value (Go.Operand.func 17), args := #[Go.Operand.tmp 140, Go.Operand.tmp 141], argTypes := #[22, 22] }, type := 22, pos := _, after := #[{ on := 2, ground := Go.Ground.data }, { on := 3, ground := Go.Ground.data }, { on := 2, ground := Go.Ground.chain }], guard := none }) rfl (fun K hK => ?_) AllReadyH.nil
            go_simp
            refine (refJoin_is _ Ao _ no _ co (join a lb) one _ RJ_9.out RO_9.out (by have := RJ_9.out.len; have := JL.out; omega) (by have := RO_9.out.len; have := OL.out; omega)).mono ?_
            rintro e w10 ⟨⟨Ax10, nx10, cx10, rfl, v10⟩, b10⟩
            have S10 := Lib.hid (step_ S9.out b10)
            have L_10 := Lib.hid (L_9.out.below b10)
            have RB_10 := Lib.hid (RB_9.out.below b10)
            have RO_10 := Lib.hid (RO_9.out.below b10)
            have RJ_10 := Lib.hid (RJ_9.out.below b10)
            have GA_10 := Lib.hid (GA_9.out.below b10)
            have RF_10 := Lib.hid (v10)
            clear b10 v10
            go_wp2_with fail
            refine hK.out _ _ S10.out (fun _ => ?_)
            clear hK K
            try simp only [Act.put, List.setIfInBounds_toArray, List.set_cons_zero, List.set_cons_succ]
            refine wpAnyH_ready (rs := [7]) (by kernel_rfl) (by simp) ?_
            refine AllReadyH.cons (o := { dst := some 145, op := Go.Op.call { callee := Go.Callee.value (Go.Operand.func 7), args := #[Go.Operand.tmp 142, Go.Operand.tmp 144], argTypes := #[22, 23] }, type := 28, pos := _, after := #[{ on := 4, ground := Go.Ground.data }, { on := 6, ground := Go.Ground.data }, { on := 4, ground := Go.Ground.chain }], guard := none }) rfl (fun K hK => ?_) AllReadyH.nil
            go_simp
            refine (get_at _ _ _ (join (join a lb) one) c tf (nn + 1) rf _ RF_10.out (by have := RF_10.out.len; have := FL.out; omega) hcr HVF).mono ?_
            rintro e w11 ⟨rfl, b11⟩
            have S11 := Lib.hid (step_ S10.out b11)
            have L_11 := Lib.hid (L_10.out.below b11)
            have RB_11 := Lib.hid (RB_10.out.below b11)
            have RO_11 := Lib.hid (RO_10.out.below b11)
            have RJ_11 := Lib.hid (RJ_10.out.below b11)
            have GA_11 := Lib.hid (GA_10.out.below b11)
            have RF_11 := Lib.hid (RF_10.out.below b11)
            clear b11
            go_wp2_with fail
            refine hK.out _ _ S11.out (fun _ => ?_)
            clear hK K
            try simp only [Act.put, List.setIfInBounds_toArray, List.set_cons_zero, List.set_cons_succ]
            refine wpAnyH_take (i := 8) (oi := { dst := some 137, op := Go.Op.move (Go.Operand.tmp 145), type := 28, pos := _, after := #[{ on := 7, ground := Go.Ground.data }], guard := none }) (v := ?_) rfl (by kernel_rfl) (by kernel_rfl) (by kernel_rfl) (fun _ _ _ h => h) (Or.inl ⟨by rfl, ?_⟩) S11.out ?_
            rotate_left
            · intro W hW; (go_simp; try with_reducible rfl)
            try simp only [Act.put, List.setIfInBounds_toArray, List.set_cons_zero, List.set_cons_succ]
            refine wpAnyH_take (i := 9) (oi := { dst := some 146, op := Go.Op.extract (Go.Operand.tmp 137) 0, type := 26, pos := _, after := #[{ on := 8, ground := Go.Ground.data }], guard := none }) (v := ?_) rfl (by kernel_rfl) (by kernel_rfl) (by kernel_rfl) (fun _ _ _ h => h) (Or.inl ⟨by rfl, ?_⟩) S11.out ?_
            rotate_left
            · intro W hW; (go_simp; try with_reducible rfl)
            try simp only [Act.put, List.setIfInBounds_toArray, List.set_cons_zero, List.set_cons_succ]
            refine wpAnyH_take (i := 10) (oi := { dst := some 147, op := Go.Op.extract (Go.Operand.tmp 137) 1, type := 27, pos := _, after := #[{ on := 8, ground := Go.Ground.data }, { on := 13, ground := Go.Ground.gcOnly Go.Departure.lateStores }], guard := none }) (v := ?_) rfl (by kernel_rfl) (by kernel_rfl) (by kernel_rfl) (fun _ _ _ h => h) (Or.inl ⟨by rfl, ?_⟩) S11.out ?_
            rotate_left
            · intro W hW; (go_simp; try with_reducible rfl)
            try simp only [Act.put, List.setIfInBounds_toArray, List.set_cons_zero, List.set_cons_succ]
            refine wpAnyH_take (i := 11) (oi := { dst := some 148, op := Go.Op.extract (Go.Operand.tmp 137) 2, type := 5, pos := _, after := #[{ on := 8, ground := Go.Ground.data }, { on := 14, ground := Go.Ground.gcOnly Go.Departure.lateStores }], guard := none }) (v := ?_) rfl (by kernel_rfl) (by kernel_rfl) (by kernel_rfl) (fun _ _ _ h => h) (Or.inl ⟨by rfl, ?_⟩) S11.out ?_
            rotate_left
            · intro W hW; (go_simp; try with_reducible rfl)
            try simp only [Act.put, List.setIfInBounds_toArray, List.set_cons_zero, List.set_cons_succ]
            refine wpAnyH_ready (rs := [13]) (by kernel_rfl) (by simp) ?_
            refine ready_store_cs (o := { dst := none, op := Go.Op.store 26 (Go.Operand.tmp 24) (Go.Operand.tmp 146), type := 0, pos := _, after := #[{ on := 12, ground := Go.Ground.data }, { on := 9, ground := Go.Ground.data }, { on := 7, ground := Go.Ground.chain }, { on := 0, ground := Go.Ground.phase }, { on := 1, ground := Go.Ground.phase }, { on := 2, ground := Go.Ground.phase }, { on := 3, ground := Go.Ground.phase }, { on := 4, ground := Go.Ground.phase }, { on := 5, ground := Go.Ground.phase }, { on := 6, ground := Go.Ground.phase }, { on := 7, ground := Go.Ground.phase }, { on := 8, ground := Go.Ground.phase }, { on := 9, ground := Go.Ground.phase }, { on := 10, ground := Go.Ground.textOnly Go.Departure.lateStores }, { on := 11, ground := Go.Ground.textOnly Go.Departure.lateStores }, { on := 12, ground := Go.Ground.phase }], guard := none }) rfl rfl 26 (.tmp 24) (.tmp 146) rfl ga (nmL M.zero8) (nmL tf) rfl rfl GA_11.out (by unfold nmL; rw [List.length_map, List.length_map, HF.out]; rfl) (size_nmL HF.out) (nm_one tf) (fun W5 N5 O5 => ?_) AllReadyH.nil
            have M5 := Lib.hid N5
            have S5 := Lib.hid (S11.out.trans (O5.below LG.out S11.out.size))
            clear N5 O5
            refine ⟨S5.out, ?_⟩
            try simp only [Act.put]
            refine wpAnyH_take (i := 14) (oi := { dst := some 25, op := Go.Op.assign (Go.Operand.tmp 147), type := 27, pos := _, after := #[{ on := 10, ground := Go.Ground.data }, { on := 13, ground := Go.Ground.chain }, { on := 0, ground := Go.Ground.phase }, { on := 1, ground := Go.Ground.phase }, { on := 2, ground := Go.Ground.phase }, { on := 3, ground := Go.Ground.phase }, { on := 4, ground := Go.Ground.phase }, { on := 5, ground := Go.Ground.phase }, { on := 6, ground := Go.Ground.phase }, { on := 7, ground := Go.Ground.phase }, { on := 8, ground := Go.Ground.phase }, { on := 9, ground := Go.Ground.phase }, { on := 10, ground := Go.Ground.phase }, { on := 11, ground := Go.Ground.textOnly Go.Departure.lateStores }, { on := 12, ground := Go.Ground.phase }, { on := 13, ground := Go.Ground.phase }], guard := none }) (v := ?_) rfl (by kernel_rfl) (by kernel_rfl) (by kernel_rfl) (fun _ _ _ h => h) (Or.inl ⟨by rfl, ?_⟩) S5.out ?_
            rotate_left
            · intro W hW; (go_simp; try with_reducible rfl)
            try simp only [Act.put, List.setIfInBounds_toArray, List.set_cons_zero, List.set_cons_succ]
            refine wpAnyH_take (i := 15) (oi := { dst := some 26, op := Go.Op.assign (Go.Operand.tmp 148), type := 5, pos := _, after := #[{ on := 11, ground := Go.Ground.data }, { on := 14, ground := Go.Ground.chain }, { on := 0, ground := Go.Ground.phase }, { on := 1, ground := Go.Ground.phase }, { on := 2, ground := Go.Ground.phase }, { on := 3, ground := Go.Ground.phase }, { on := 4, ground := Go.Ground.phase }, { on := 5, ground := Go.Ground.phase }, { on := 6, ground := Go.Ground.phase }, { on := 7, ground := Go.Ground.phase }, { on := 8, ground := Go.Ground.phase }, { on := 9, ground := Go.Ground.phase }, { on := 10, ground := Go.Ground.phase }, { on := 11, ground := Go.Ground.phase }, { on := 12, ground := Go.Ground.phase }, { on := 13, ground := Go.Ground.phase }, { on := 14, ground := Go.Ground.phase }], guard := none }) (v := ?_) rfl (by kernel_rfl) (by kernel_rfl) (by kernel_rfl) (fun _ _ _ h => h) (Or.inl ⟨by rfl, ?_⟩) S5.out ?_
            rotate_left
            · intro W hW; (go_simp; try with_reducible rfl)
            try simp only [Act.put, List.setIfInBounds_toArray, List.set_cons_zero, List.set_cons_succ]
            refine wpAnyH_done (by kernel_rfl) ?_ _
            refine NoPanic.normal ?_
            have L16 := Lib.hid (L15.out.below S5.out)
            have cx0 := L16.out.x.cell (i := 0) rfl
            have cy0 := L16.out.y.cell (i := 0) rfl
            have Rx := Lib.hid (ask_nm L16.out.x)
            have Ry := Lib.hid (ask_nm L16.out.y)
            have X16 := Lib.hid (step_ X15.out S5.out)
            go_wp2_with (first
              | go_skip
              | (refine wanted_on rfl ?_; refine wpList_load_nm rfl _ rfl ga 0 tf rfl M5.out.range HF.out ?_)
              | (refine wanted_on rfl ?_; refine wpList_load_nm rfl _ rfl g1 2 tf rfl Rx.out HF.out ?_)
              | (refine wanted_on rfl ?_; refine wpList_val rfl _ (exec_eq_nm _ _ _ rfl tf tf rfl rfl HF.out HF.out) ?_; rw [TE.out]))
            refine (alive_is _).mono ?_
            rintro e wz ⟨rfl, bz⟩
            have WZ := Lib.hid (step_ X16.out bz)
            clear bz
            go_wp2_with fail
            go_ret
            exact ⟨rfl, WZ.out⟩
          refine ready_alloc26 (o := { dst := some 24, op := Go.Op.alloc 26, type := 0, pos := _, after := #[], guard := none }) rfl rfl rfl (fun ga wa13 ea13 Na13 b13 => ?_) AllReadyH.nil
          have S13 := Lib.hid (step_ S0.out b13)
          have L_13 := Lib.hid (L15b.out.below b13)
          have RB_13 := Lib.hid (RB15b.out.below b13)
          have RO_13 := Lib.hid (RO15b.out.below b13)
          have GA_13 := Lib.hid Na13
          have LG := Lib.hid (show w15.heap.size ≤ ga by have := S0.out.size; omega)
          clear b13 Na13 ea13
          refine ⟨S13.out, ?_⟩
          try simp only [Act.put, List.setIfInBounds_toArray, List.set_cons_zero, List.set_cons_succ]
          refine wpAnyH_ready (rs := [2]) (by kernel_rfl) (by simp) ?_
          refine AllReadyH.cons (o := { dst := some 140, op := Go.Op.call { callee := Go.Callee.value (Go.Operand.func 17), args := #[Go.Operand.tmp 138, Go.Operand.tmp 139], argTypes := #[22, 22] }, type := 22, pos := _, after := #[{ on := 0, ground := Go.Ground.data }, { on := 1, ground := Go.Ground.data }], guard := none }) rfl (fun K hK => ?_) AllReadyH.nil
          go_simp
          refine (refJoin_is A Ab n nb cap cb a lb _ (L_13.out.r) RB_13.out (by omega) (by have := RB_13.out.len; have := LB.out; omega)).mono ?_
          rintro e w14 ⟨⟨Ax14, nx14, cx14, rfl, v14⟩, b14⟩
          have S14 := Lib.hid (step_ S13.out b14)
          have L_14 := Lib.hid (L_13.out.below b14)
          have RB_14 := Lib.hid (RB_13.out.below b14)
          have RO_14 := Lib.hid (RO_13.out.below b14)
          have GA_14 := Lib.hid (GA_13.out.below b14)
          have RJ_14 := Lib.hid (v14)
          clear b14 v14
          go_wp2_with fail
          refine hK.out _ _ S14.out (fun _ => ?_)
          clear hK K
          try simp only [Act.put, List.setIfInBounds_toArray, List.set_cons_zero, List.set_cons_succ]
          refine wpAnyH_ready (rs := [4]) (by kernel_rfl) (by simp) ?_
          refine AllReadyH.cons (o := { dst := some 142, op := Go.Op.call { callee := Go.Callee.value (Go.Operand.func 17), args := #[Go.Operand.tmp 140, Go.Operand.tmp 141], argTypes := #[22, 22] }, type := 22, pos := _, after := #[{ on := 2, ground := Go.Ground.data }, { on := 3, ground := Go.Ground.data }, { on := 2, ground := Go.Ground.chain }], guard := none }) rfl (fun K hK => ?_) AllReadyH.nil
          go_simp
          refine (refJoin_is _ Ao _ no _ co (join a lb) one _ RJ_14.out RO_14.out (by have := RJ_14.out.len; have := JL.out; omega) (by have := RO_14.out.len; have := OL.out; omega)).mono ?_
          rintro e w15 ⟨⟨Ax15, nx15, cx15, rfl, v15⟩, b15⟩
          have S15 := Lib.hid (step_ S14.out b15)
          have L_15 := Lib.hid (L_14.out.below b15)
          have RB_15 := Lib.hid (RB_14.out.below b15)
          have RO_15 := Lib.hid (RO_14.out.below b15)
          have GA_15 := Lib.hid (GA_14.out.below b15)
          have RJ_15 := Lib.hid (RJ_14.out.below b15)
          have RF_15 := Lib.hid (v15)
          clear b15 v15
          go_wp2_with fail
          refine hK.out _ _ S15.out (fun _ => ?_)
          clear hK K
          try simp only [Act.put, List.setIfInBounds_toArray, List.set_cons_zero, List.set_cons_succ]
          refine wpAnyH_ready (rs := [7]) (by kernel_rfl) (by simp) ?_
          refine AllReadyH.cons (o := { dst := some 145, op := Go.Op.call { callee := Go.Callee.value (Go.Operand.func 7), args := #[Go.Operand.tmp 142, Go.Operand.tmp 144], argTypes := #[22, 23] }, type := 28, pos := _, after := #[{ on := 4, ground := Go.Ground.data }, { on := 6, ground := Go.Ground.data }, { on := 4, ground := Go.Ground.chain }], guard := none }) rfl (fun K hK => ?_) AllReadyH.nil
          go_simp
          refine (get_at _ _ _ (join (join a lb) one) c tf (nn + 1) rf _ RF_15.out (by have := RF_15.out.len; have := FL.out; omega) hcr HVF).mono ?_
          rintro e w16 ⟨rfl, b16⟩
          have S16 := Lib.hid (step_ S15.out b16)
          have L_16 := Lib.hid (L_15.out.below b16)
          have RB_16 := Lib.hid (RB_15.out.below b16)
          have RO_16 := Lib.hid (RO_15.out.below b16)
          have GA_16 := Lib.hid (GA_15.out.below b16)
          have RJ_16 := Lib.hid (RJ_15.out.below b16)
          have RF_16 := Lib.hid (RF_15.out.below b16)
          clear b16
          go_wp2_with fail
          refine hK.out _ _ S16.out (fun _ => ?_)
          clear hK K
          try simp only [Act.put, List.setIfInBounds_toArray, List.set_cons_zero, List.set_cons_succ]
          refine wpAnyH_take (i := 8) (oi := { dst := some 137, op := Go.Op.move (Go.Operand.tmp 145), type := 28, pos := _, after := #[{ on := 7, ground := Go.Ground.data }], guard := none }) (v := ?_) rfl (by kernel_rfl) (by kernel_rfl) (by kernel_rfl) (fun _ _ _ h => h) (Or.inl ⟨by rfl, ?_⟩) S16.out ?_
          rotate_left
          · intro W hW; (go_simp; try with_reducible rfl)
          try simp only [Act.put, List.setIfInBounds_toArray, List.set_cons_zero, List.set_cons_succ]
          refine wpAnyH_take (i := 9) (oi := { dst := some 146, op := Go.Op.extract (Go.Operand.tmp 137) 0, type := 26, pos := _, after := #[{ on := 8, ground := Go.Ground.data }], guard := none }) (v := ?_) rfl (by kernel_rfl) (by kernel_rfl) (by kernel_rfl) (fun _ _ _ h => h) (Or.inl ⟨by rfl, ?_⟩) S16.out ?_
          rotate_left
          · intro W hW; (go_simp; try with_reducible rfl)
          try simp only [Act.put, List.setIfInBounds_toArray, List.set_cons_zero, List.set_cons_succ]
          refine wpAnyH_take (i := 10) (oi := { dst := some 147, op := Go.Op.extract (Go.Operand.tmp 137) 1, type := 27, pos := _, after := #[{ on := 8, ground := Go.Ground.data }, { on := 13, ground := Go.Ground.gcOnly Go.Departure.lateStores }], guard := none }) (v := ?_) rfl (by kernel_rfl) (by kernel_rfl) (by kernel_rfl) (fun _ _ _ h => h) (Or.inl ⟨by rfl, ?_⟩) S16.out ?_
          rotate_left
          · intro W hW; (go_simp; try with_reducible rfl)
          try simp only [Act.put, List.setIfInBounds_toArray, List.set_cons_zero, List.set_cons_succ]
          refine wpAnyH_take (i := 11) (oi := { dst := some 148, op := Go.Op.extract (Go.Operand.tmp 137) 2, type := 5, pos := _, after := #[{ on := 8, ground := Go.Ground.data }, { on := 14, ground := Go.Ground.gcOnly Go.Departure.lateStores }], guard := none }) (v := ?_) rfl (by kernel_rfl) (by kernel_rfl) (by kernel_rfl) (fun _ _ _ h => h) (Or.inl ⟨by rfl, ?_⟩) S16.out ?_
          rotate_left
          · intro W hW; (go_simp; try with_reducible rfl)
          try simp only [Act.put, List.setIfInBounds_toArray, List.set_cons_zero, List.set_cons_succ]
          refine wpAnyH_ready (rs := [13]) (by kernel_rfl) (by simp) ?_
          refine ready_store_cs (o := { dst := none, op := Go.Op.store 26 (Go.Operand.tmp 24) (Go.Operand.tmp 146), type := 0, pos := _, after := #[{ on := 12, ground := Go.Ground.data }, { on := 9, ground := Go.Ground.data }, { on := 7, ground := Go.Ground.chain }, { on := 0, ground := Go.Ground.phase }, { on := 1, ground := Go.Ground.phase }, { on := 2, ground := Go.Ground.phase }, { on := 3, ground := Go.Ground.phase }, { on := 4, ground := Go.Ground.phase }, { on := 5, ground := Go.Ground.phase }, { on := 6, ground := Go.Ground.phase }, { on := 7, ground := Go.Ground.phase }, { on := 8, ground := Go.Ground.phase }, { on := 9, ground := Go.Ground.phase }, { on := 10, ground := Go.Ground.textOnly Go.Departure.lateStores }, { on := 11, ground := Go.Ground.textOnly Go.Departure.lateStores }, { on := 12, ground := Go.Ground.phase }], guard := none }) rfl rfl 26 (.tmp 24) (.tmp 146) rfl ga (nmL M.zero8) (nmL tf) rfl rfl GA_16.out (by unfold nmL; rw [List.length_map, List.length_map, HF.out]; rfl) (size_nmL HF.out) (nm_one tf) (fun W5 N5 O5 => ?_) AllReadyH.nil
          have M5 := Lib.hid N5
          have S5 := Lib.hid (S16.out.trans (O5.below LG.out S16.out.size))
          clear N5 O5
          refine ⟨S5.out, ?_⟩
          try simp only [Act.put]
          refine wpAnyH_take (i := 14) (oi := { dst := some 25, op := Go.Op.assign (Go.Operand.tmp 147), type := 27, pos := _, after := #[{ on := 10, ground := Go.Ground.data }, { on := 13, ground := Go.Ground.chain }, { on := 0, ground := Go.Ground.phase }, { on := 1, ground := Go.Ground.phase }, { on := 2, ground := Go.Ground.phase }, { on := 3, ground := Go.Ground.phase }, { on := 4, ground := Go.Ground.phase }, { on := 5, ground := Go.Ground.phase }, { on := 6, ground := Go.Ground.phase }, { on := 7, ground := Go.Ground.phase }, { on := 8, ground := Go.Ground.phase }, { on := 9, ground := Go.Ground.phase }, { on := 10, ground := Go.Ground.phase }, { on := 11, ground := Go.Ground.textOnly Go.Departure.lateStores }, { on := 12, ground := Go.Ground.phase }, { on := 13, ground := Go.Ground.phase }], guard := none }) (v := ?_) rfl (by kernel_rfl) (by kernel_rfl) (by kernel_rfl) (fun _ _ _ h => h) (Or.inl ⟨by rfl, ?_⟩) S5.out ?_
          rotate_left
          · intro W hW; (go_simp; try with_reducible rfl)
          try simp only [Act.put, List.setIfInBounds_toArray, List.set_cons_zero, List.set_cons_succ]
          refine wpAnyH_take (i := 15) (oi := { dst := some 26, op := Go.Op.assign (Go.Operand.tmp 148), type := 5, pos := _, after := #[{ on := 11, ground := Go.Ground.data }, { on := 14, ground := Go.Ground.chain }, { on := 0, ground := Go.Ground.phase }, { on := 1, ground := Go.Ground.phase }, { on := 2, ground := Go.Ground.phase }, { on := 3, ground := Go.Ground.phase }, { on := 4, ground := Go.Ground.phase }, { on := 5, ground := Go.Ground.phase }, { on := 6, ground := Go.Ground.phase }, { on := 7, ground := Go.Ground.phase }, { on := 8, ground := Go.Ground.phase }, { on := 9, ground := Go.Ground.phase }, { on := 10, ground := Go.Ground.phase }, { on := 11, ground := Go.Ground.phase }, { on := 12, ground := Go.Ground.phase }, { on := 13, ground := Go.Ground.phase }, { on := 14, ground := Go.Ground.phase }], guard := none }) (v := ?_) rfl (by kernel_rfl) (by kernel_rfl) (by kernel_rfl) (fun _ _ _ h => h) (Or.inl ⟨by rfl, ?_⟩) S5.out ?_
          rotate_left
          · intro W hW; (go_simp; try with_reducible rfl)
          try simp only [Act.put, List.setIfInBounds_toArray, List.set_cons_zero, List.set_cons_succ]
          refine wpAnyH_done (by kernel_rfl) ?_ _
          refine NoPanic.normal ?_
          have L16 := Lib.hid (L15.out.below S5.out)
          have cx0 := L16.out.x.cell (i := 0) rfl
          have cy0 := L16.out.y.cell (i := 0) rfl
          have Rx := Lib.hid (ask_nm L16.out.x)
          have Ry := Lib.hid (ask_nm L16.out.y)
          have X16 := Lib.hid (step_ X15.out S5.out)
          go_wp2_with (first
            | go_skip
            | (refine wanted_on rfl ?_; refine wpList_load_nm rfl _ rfl ga 0 tf rfl M5.out.range HF.out ?_)
            | (refine wanted_on rfl ?_; refine wpList_load_nm rfl _ rfl g1 2 tf rfl Rx.out HF.out ?_)
            | (refine wanted_on rfl ?_; refine wpList_val rfl _ (exec_eq_nm _ _ _ rfl tf tf rfl rfl HF.out HF.out) ?_; rw [TE.out]))
          refine (alive_is _).mono ?_
          rintro e wz ⟨rfl, bz⟩
          have WZ := Lib.hid (step_ X16.out bz)
          clear bz
          go_wp2_with fail
          go_ret
          exact ⟨rfl, WZ.out⟩
        · have q1 : decide (ry < rx) = false := decide_eq_false hlt
          have q2 : decide (rx < ry) = true := decide_eq_true (by have : ¬ rx = ry := by simpa using hq
                                                                  omega)
          have RY16 := Lib.hid (show 0 ≤ ry ∧ ry < 16 from ⟨hry.1, P2.out.1⟩)
          obtain ⟨tf, htf⟩ : ∃ z, z = ty := ⟨_, rfl⟩
          subst htf
          have HF := Lib.hid HY.out.1
          have TE := Lib.hid (show (tf == tf) = true by simp)
          obtain ⟨rf, hrf⟩ : ∃ z, z = ry := ⟨_, rfl⟩
          subst hrf
          have HVF := Lib.hid (show (noteV (join (join a lb) one) c).t = tf ∧ vnum (noteV (join (join a lb) one) c) = nn + 1 ∧ vrep (noteV (join (join a lb) one) c) = rf by
            rw [FV.out, if_neg hlt]; exact ⟨rfl, vnum_noteN NB.out RY16.out, vrep_noteN RY16.out⟩)
          have hb9 : (rf == rf) = true := by simp
          clear hlt hnn hf
          go_wp2_with go_skip
          clear cx0 cy0
          refine wp_region_noPanic ?_
          refine wp_region_held_drew (S := fun W => Below w15.heap.size w15 W) (by kernel_rfl) S0.out (fun _ => ?_)
          refine wpAnyH_take (i := 0) (oi := { dst := some 138, op := Go.Op.move (Go.Operand.tmp 0), type := 22, pos := _, after := #[], guard := none }) (v := ?_) rfl (by kernel_rfl) (by kernel_rfl) (by kernel_rfl) (fun _ _ _ h => h) (Or.inl ⟨by rfl, ?_⟩) S0.out ?_
          rotate_left
          · intro W hW; (go_simp; try with_reducible rfl)
          try simp only [Act.put, List.setIfInBounds_toArray, List.set_cons_zero, List.set_cons_succ]
          refine wpAnyH_take (i := 1) (oi := { dst := some 139, op := Go.Op.move (Go.Operand.tmp 22), type := 22, pos := _, after := #[], guard := none }) (v := ?_) rfl (by kernel_rfl) (by kernel_rfl) (by kernel_rfl) (fun _ _ _ h => h) (Or.inl ⟨by rfl, ?_⟩) S0.out ?_
          rotate_left
          · intro W hW; (go_simp; try with_reducible rfl)
          try simp only [Act.put, List.setIfInBounds_toArray, List.set_cons_zero, List.set_cons_succ]
          refine wpAnyH_take (i := 3) (oi := { dst := some 141, op := Go.Op.move (Go.Operand.tmp 9), type := 22, pos := _, after := #[], guard := none }) (v := ?_) rfl (by kernel_rfl) (by kernel_rfl) (by kernel_rfl) (fun _ _ _ h => h) (Or.inl ⟨by rfl, ?_⟩) S0.out ?_
          rotate_left
          · intro W hW; (go_simp; try with_reducible rfl)
          try simp only [Act.put, List.setIfInBounds_toArray, List.set_cons_zero, List.set_cons_succ]
          refine wpAnyH_take (i := 5) (oi := { dst := some 143, op := Go.Op.fieldAddr 35 (Go.Operand.tmp 4) 1, type := 0, pos := _, after := #[], guard := none }) (v := ?_) rfl (by kernel_rfl) (by kernel_rfl) (by kernel_rfl) (fun _ _ _ h => h) (Or.inl ⟨by rfl, ?_⟩) S0.out ?_
          rotate_left
          · intro W hW; (go_simp; try with_reducible rfl)
          try simp only [Act.put, List.setIfInBounds_toArray, List.set_cons_zero, List.set_cons_succ]
          refine wpAnyH_take (i := 6) (oi := { dst := some 144, op := Go.Op.load 23 (Go.Operand.tmp 143), type := 23, pos := _, after := #[{ on := 5, ground := Go.Ground.data }], guard := none }) (v := .int .u16 c) rfl (by kernel_rfl) (by kernel_rfl) (by kernel_rfl) (fun _ _ _ h => h) (Or.inl ⟨by rfl, fun W hW => exec_load_i Try.underlying23 (.tmp 143) rfl g1 1 c rfl ((L15.out.x.below hW).cell (i := 1) rfl)⟩) S0.out ?_
          try simp only [Act.put, List.setIfInBounds_toArray, List.set_cons_zero, List.set_cons_succ]
          refine wpAnyH_ready (rs := [2, 12]) (by kernel_rfl) (by simp) ?_
          refine AllReadyH.cons (o := { dst := some 140, op := Go.Op.call { callee := Go.Callee.value (Go.Operand.func 17), args := #[Go.Operand.tmp 138, Go.Operand.tmp 139], argTypes := #[22, 22] }, type := 22, pos := _, after := #[{ on := 0, ground := Go.Ground.data }, { on := 1, ground := Go.Ground.data }], guard := none }) rfl (fun K hK => ?_) ?_
          · go_simp
            refine (refJoin_is A Ab n nb cap cb a lb _ (L15b.out.r) RB15b.out (by omega) (by have := RB15b.out.len; have := LB.out; omega)).mono ?_
            rintro e w1 ⟨⟨Ax1, nx1, cx1, rfl, v1⟩, b1⟩
            have S1 := Lib.hid (step_ S0.out b1)
            have L_1 := Lib.hid (L15b.out.below b1)
            have RB_1 := Lib.hid (RB15b.out.below b1)
            have RO_1 := Lib.hid (RO15b.out.below b1)
            have RJ_1 := Lib.hid (v1)
            clear b1 v1
            go_wp2_with fail
            refine hK.out _ _ S1.out (fun _ => ?_)
            clear hK K
            try simp only [Act.put, List.setIfInBounds_toArray, List.set_cons_zero, List.set_cons_succ]
            refine wpAnyH_ready (rs := [4, 12]) (by kernel_rfl) (by simp) ?_
            refine AllReadyH.cons (o := { dst := some 142, op := Go.Op.call { callee := Go.Callee.value (Go.Operand.func 17), args := #[Go.Operand.tmp 140, Go.Operand.tmp 141], argTypes := #[22, 22] }, type := 22, pos := _, after := #[{ on := 2, ground := Go.Ground.data }, { on := 3, ground := Go.Ground.data }, { on := 2, ground := Go.Ground.chain }], guard := none }) rfl (fun K hK => ?_) ?_
            · go_simp
              refine (refJoin_is _ Ao _ no _ co (join a lb) one _ RJ_1.out RO_1.out (by have := RJ_1.out.len; have := JL.out; omega) (by have := RO_1.out.len; have := OL.out; omega)).mono ?_
              rintro e w2 ⟨⟨Ax2, nx2, cx2, rfl, v2⟩, b2⟩
              have S2 := Lib.hid (step_ S1.out b2)
              have L_2 := Lib.hid (L_1.out.below b2)
              have RB_2 := Lib.hid (RB_1.out.below b2)
              have RO_2 := Lib.hid (RO_1.out.below b2)
              have RJ_2 := Lib.hid (RJ_1.out.below b2)
              have RF_2 := Lib.hid (v2)
              clear b2 v2
              go_wp2_with fail
              refine hK.out _ _ S2.out (fun _ => ?_)
              clear hK K
              try simp only [Act.put, List.setIfInBounds_toArray, List.set_cons_zero, List.set_cons_succ]
              refine wpAnyH_ready (rs := [7, 12]) (by kernel_rfl) (by simp) ?_
              refine AllReadyH.cons (o := { dst := some 145, op := Go.Op.call { callee := Go.Callee.value (Go.Operand.func 7), args := #[Go.Operand.tmp 142, Go.Operand.tmp 144], argTypes := #[22, 23] }, type := 28, pos := _, after := #[{ on := 4, ground := Go.Ground.data }, { on := 6, ground := Go.Ground.data }, { on := 4, ground := Go.Ground.chain }], guard := none }) rfl (fun K hK => ?_) ?_
              · go_simp
                refine (get_at _ _ _ (join (join a lb) one) c tf (nn + 1) rf _ RF_2.out (by have := RF_2.out.len; have := FL.out; omega) hcr HVF).mono ?_
                rintro e w3 ⟨rfl, b3⟩
                have S3 := Lib.hid (step_ S2.out b3)
                have L_3 := Lib.hid (L_2.out.below b3)
                have RB_3 := Lib.hid (RB_2.out.below b3)
                have RO_3 := Lib.hid (RO_2.out.below b3)
                have RJ_3 := Lib.hid (RJ_2.out.below b3)
                have RF_3 := Lib.hid (RF_2.out.below b3)
                clear b3
                go_wp2_with fail
                refine hK.out _ _ S3.out (fun _ => ?_)
                clear hK K
                try simp only [Act.put, List.setIfInBounds_toArray, List.set_cons_zero, List.set_cons_succ]
                refine wpAnyH_take (i := 8) (oi := { dst := some 137, op := Go.Op.move (Go.Operand.tmp 145), type := 28, pos := _, after := #[{ on := 7, ground := Go.Ground.data }], guard := none }) (v := ?_) rfl (by kernel_rfl) (by kernel_rfl) (by kernel_rfl) (fun _ _ _ h => h) (Or.inl ⟨by rfl, ?_⟩) S3.out ?_
                rotate_left
                · intro W hW; (go_simp; try with_reducible rfl)
                try simp only [Act.put, List.setIfInBounds_toArray, List.set_cons_zero, List.set_cons_succ]
                refine wpAnyH_take (i := 9) (oi := { dst := some 146, op := Go.Op.extract (Go.Operand.tmp 137) 0, type := 26, pos := _, after := #[{ on := 8, ground := Go.Ground.data }], guard := none }) (v := ?_) rfl (by kernel_rfl) (by kernel_rfl) (by kernel_rfl) (fun _ _ _ h => h) (Or.inl ⟨by rfl, ?_⟩) S3.out ?_
                rotate_left
                · intro W hW; (go_simp; try with_reducible rfl)
                try simp only [Act.put, List.setIfInBounds_toArray, List.set_cons_zero, List.set_cons_succ]
                refine wpAnyH_take (i := 10) (oi := { dst := some 147, op := Go.Op.extract (Go.Operand.tmp 137) 1, type := 27, pos := _, after := #[{ on := 8, ground := Go.Ground.data }, { on := 13, ground := Go.Ground.gcOnly Go.Departure.lateStores }], guard := none }) (v := ?_) rfl (by kernel_rfl) (by kernel_rfl) (by kernel_rfl) (fun _ _ _ h => h) (Or.inl ⟨by rfl, ?_⟩) S3.out ?_
                rotate_left
                · intro W hW; (go_simp; try with_reducible rfl)
                try simp only [Act.put, List.setIfInBounds_toArray, List.set_cons_zero, List.set_cons_succ]
                refine wpAnyH_take (i := 11) (oi := { dst := some 148, op := Go.Op.extract (Go.Operand.tmp 137) 2, type := 5, pos := _, after := #[{ on := 8, ground := Go.Ground.data }, { on := 14, ground := Go.Ground.gcOnly Go.Departure.lateStores }], guard := none }) (v := ?_) rfl (by kernel_rfl) (by kernel_rfl) (by kernel_rfl) (fun _ _ _ h => h) (Or.inl ⟨by rfl, ?_⟩) S3.out ?_
                rotate_left
                · intro W hW; (go_simp; try with_reducible rfl)
                try simp only [Act.put, List.setIfInBounds_toArray, List.set_cons_zero, List.set_cons_succ]
                refine wpAnyH_ready (rs := [12]) (by kernel_rfl) (by simp) ?_
                refine ready_alloc26 (o := { dst := some 24, op := Go.Op.alloc 26, type := 0, pos := _, after := #[], guard := none }) rfl rfl rfl (fun ga wa4 ea4 Na4 b4 => ?_) AllReadyH.nil
                have S4 := Lib.hid (step_ S3.out b4)
                have L_4 := Lib.hid (L_3.out.below b4)
                have RB_4 := Lib.hid (RB_3.out.below b4)
                have RO_4 := Lib.hid (RO_3.out.below b4)
                have RJ_4 := Lib.hid (RJ_3.out.below b4)
                have RF_4 := Lib.hid (RF_3.out.below b4)
                have GA_4 := Lib.hid Na4
                have LG := Lib.hid (show w15.heap.size ≤ ga by have := S3.out.size; omega)
                clear b4 Na4 ea4
                refine ⟨S4.out, ?_⟩
                try simp only [Act.put, List.setIfInBounds_toArray, List.set_cons_zero, List.set_cons_succ]
                refine wpAnyH_ready (rs := [13]) (by kernel_rfl) (by simp) ?_
                refine ready_store_cs (o := { dst := none, op := Go.Op.store 26 (Go.Operand.tmp 24) (Go.Operand.tmp 146), type := 0, pos := _, after := #[{ on := 12, ground := Go.Ground.data }, { on := 9, ground := Go.Ground.data }, { on := 7, ground := Go.Ground.chain }, { on := 0, ground := Go.Ground.phase }, { on := 1, ground := Go.Ground.phase }, { on := 2, ground := Go.Ground.phase }, { on := 3, ground := Go.Ground.phase }, { on := 4, ground := Go.Ground.phase }, { on := 5, ground := Go.Ground.phase }, { on := 6, ground := Go.Ground.phase }, { on := 7, ground := Go.Ground.phase }, { on := 8, ground := Go.Ground.phase }, { on := 9, ground := Go.Ground.phase }, { on := 10, ground := Go.Ground.textOnly Go.Departure.lateStores }, { on := 11, ground := Go.Ground.textOnly Go.Departure.lateStores }, { on := 12, ground := Go.Ground.phase }], guard := none }) rfl rfl 26 (.tmp 24) (.tmp 146) rfl ga (nmL M.zero8) (nmL tf) rfl rfl GA_4.out (by unfold nmL; rw [List.length_map, List.length_map, HF.out]; rfl) (size_nmL HF.out) (nm_one tf) (fun W5 N5 O5 => ?_) AllReadyH.nil
                have M5 := Lib.hid N5
                have S5 := Lib.hid (S4.out.trans (O5.below LG.out S4.out.size))
                clear N5 O5
                refine ⟨S5.out, ?_⟩
                try simp only [Act.put]
                refine wpAnyH_take (i := 14) (oi := { dst := some 25, op := Go.Op.assign (Go.Operand.tmp 147), type := 27, pos := _, after := #[{ on := 10, ground := Go.Ground.data }, { on := 13, ground := Go.Ground.chain }, { on := 0, ground := Go.Ground.phase }, { on := 1, ground := Go.Ground.phase }, { on := 2, ground := Go.Ground.phase }, { on := 3, ground := Go.Ground.phase }, { on := 4, ground := Go.Ground.phase }, { on := 5, ground := Go.Ground.phase }, { on := 6, ground := Go.Ground.phase }, { on := 7, ground := Go.Ground.phase }, { on := 8, ground := Go.Ground.phase }, { on := 9, ground := Go.Ground.phase }, { on := 10, ground := Go.Ground.phase }, { on := 11, ground := Go.Ground.textOnly Go.Departure.lateStores }, { on := 12, ground := Go.Ground.phase }, { on := 13, ground := Go.Ground.phase }], guard := none }) (v := ?_) rfl (by kernel_rfl) (by kernel_rfl) (by kernel_rfl) (fun _ _ _ h => h) (Or.inl ⟨by rfl, ?_⟩) S5.out ?_
                rotate_left
                · intro W hW; (go_simp; try with_reducible rfl)
                try simp only [Act.put, List.setIfInBounds_toArray, List.set_cons_zero, List.set_cons_succ]
                refine wpAnyH_take (i := 15) (oi := { dst := some 26, op := Go.Op.assign (Go.Operand.tmp 148), type := 5, pos := _, after := #[{ on := 11, ground := Go.Ground.data }, { on := 14, ground := Go.Ground.chain }, { on := 0, ground := Go.Ground.phase }, { on := 1, ground := Go.Ground.phase }, { on := 2, ground := Go.Ground.phase }, { on := 3, ground := Go.Ground.phase }, { on := 4, ground := Go.Ground.phase }, { on := 5, ground := Go.Ground.phase }, { on := 6, ground := Go.Ground.phase }, { on := 7, ground := Go.Ground.phase }, { on := 8, ground := Go.Ground.phase }, { on := 9, ground := Go.Ground.phase }, { on := 10, ground := Go.Ground.phase }, { on := 11, ground := Go.Ground.phase }, { on := 12, ground := Go.Ground.phase }, { on := 13, ground := Go.Ground.phase }, { on := 14, ground := Go.Ground.phase }], guard := none }) (v := ?_) rfl (by kernel_rfl) (by kernel_rfl) (by kernel_rfl) (fun _ _ _ h => h) (Or.inl ⟨by rfl, ?_⟩) S5.out ?_
                rotate_left
                · intro W hW; (go_simp; try with_reducible rfl)
                try simp only [Act.put, List.setIfInBounds_toArray, List.set_cons_zero, List.set_cons_succ]
                refine wpAnyH_done (by kernel_rfl) ?_ _
                refine NoPanic.normal ?_
                have L16 := Lib.hid (L15.out.below S5.out)
                have cx0 := L16.out.x.cell (i := 0) rfl
                have cy0 := L16.out.y.cell (i := 0) rfl
                have Rx := Lib.hid (ask_nm L16.out.x)
                have Ry := Lib.hid (ask_nm L16.out.y)
                have X16 := Lib.hid (step_ X15.out S5.out)
                go_wp2_with (first
                  | go_skip
                  | (refine wanted_on rfl ?_; refine wpList_load_nm rfl _ rfl ga 0 tf rfl M5.out.range HF.out ?_)
                  | (refine wanted_on rfl ?_; refine wpList_load_nm rfl _ rfl g2 2 tf rfl Ry.out HF.out ?_)
                  | (refine wanted_on rfl ?_; refine wpList_val rfl _ (exec_eq_nm _ _ _ rfl tf tf rfl rfl HF.out HF.out) ?_; rw [TE.out]))
                refine (alive_is _).mono ?_
                rintro e wz ⟨rfl, bz⟩
                have WZ := Lib.hid (step_ X16.out bz)
                clear bz
                go_wp2_with fail
                go_ret
                exact ⟨rfl, WZ.out⟩
              refine ready_alloc26 (o := { dst := some 24, op := Go.Op.alloc 26, type := 0, pos := _, after := #[], guard := none }) rfl rfl rfl (fun ga wa6 ea6 Na6 b6 => ?_) AllReadyH.nil
              have S6 := Lib.hid (step_ S2.out b6)
              have L_6 := Lib.hid (L_2.out.below b6)
              have RB_6 := Lib.hid (RB_2.out.below b6)
              have RO_6 := Lib.hid (RO_2.out.below b6)
              have RJ_6 := Lib.hid (RJ_2.out.below b6)
              have RF_6 := Lib.hid (RF_2.out.below b6)
              have GA_6 := Lib.hid Na6
              have LG := Lib.hid (show w15.heap.size ≤ ga by have := S2.out.size; omega)
              clear b6 Na6 ea6
              refine ⟨S6.out, ?_⟩
              try simp only [Act.put, List.setIfInBounds_toArray, List.set_cons_zero, List.set_cons_succ]
              refine wpAnyH_ready (rs := [7]) (by kernel_rfl) (by simp) ?_
              refine AllReadyH.cons (o := { dst := some 145, op := Go.Op.call { callee := Go.Callee.value (Go.Operand.func 7), args := #[Go.Operand.tmp 142, Go.Operand.tmp 144], argTypes := #[22, 23] }, type := 28, pos := _, after := #[{ on := 4, ground := Go.Ground.data }, { on := 6, ground := Go.Ground.data }, { on := 4, ground := Go.Ground.chain }], guard := none }) rfl (fun K hK => ?_) AllReadyH.nil
              go_simp
              refine (get_at _ _ _ (join (join a lb) one) c tf (nn + 1) rf _ RF_6.out (by have := RF_6.out.len; have := FL.out; omega) hcr HVF).mono ?_
              rintro e w7 ⟨rfl, b7⟩
              have S7 := Lib.hid (step_ S6.out b7)
              have L_7 := Lib.hid (L_6.out.below b7)
              have RB_7 := Lib.hid (RB_6.out.below b7)
              have RO_7 := Lib.hid (RO_6.out.below b7)
              have RJ_7 := Lib.hid (RJ_6.out.below b7)
              have RF_7 := Lib.hid (RF_6.out.below b7)
              have GA_7 := Lib.hid (GA_6.out.below b7)
              clear b7
              go_wp2_with fail
              refine hK.out _ _ S7.out (fun _ => ?_)
              clear hK K
              try simp only [Act.put, List.setIfInBounds_toArray, List.set_cons_zero, List.set_cons_succ]
              refine wpAnyH_take (i := 8) (oi := { dst := some 137, op := Go.Op.move (Go.Operand.tmp 145), type := 28, pos := _, after := #[{ on := 7, ground := Go.Ground.data }], guard := none }) (v := ?_) rfl (by kernel_rfl) (by kernel_rfl) (by kernel_rfl) (fun _ _ _ h => h) (Or.inl ⟨by rfl, ?_⟩) S7.out ?_
              rotate_left
              · intro W hW; (go_simp; try with_reducible rfl)
              try simp only [Act.put, List.setIfInBounds_toArray, List.set_cons_zero, List.set_cons_succ]
              refine wpAnyH_take (i := 9) (oi := { dst := some 146, op := Go.Op.extract (Go.Operand.tmp 137) 0, type := 26, pos := _, after := #[{ on := 8, ground := Go.Ground.data }], guard := none }) (v := ?_) rfl (by kernel_rfl) (by kernel_rfl) (by kernel_rfl) (fun _ _ _ h => h) (Or.inl ⟨by rfl, ?_⟩) S7.out ?_
              rotate_left
              · intro W hW; (go_simp; try with_reducible rfl)
              try simp only [Act.put, List.setIfInBounds_toArray, List.set_cons_zero, List.set_cons_succ]
              refine wpAnyH_take (i := 10) (oi := { dst := some 147, op := Go.Op.extract (Go.Operand.tmp 137) 1, type := 27, pos := _, after := #[{ on := 8, ground := Go.Ground.data }, { on := 13, ground := Go.Ground.gcOnly Go.Departure.lateStores }], guard := none }) (v := ?_) rfl (by kernel_rfl) (by kernel_rfl) (by kernel_rfl) (fun _ _ _ h => h) (Or.inl ⟨by rfl, ?_⟩) S7.out ?_
              rotate_left
              · intro W hW; (go_simp; try with_reducible rfl)
              try simp only [Act.put, List.setIfInBounds_toArray, List.set_cons_zero, List.set_cons_succ]
              refine wpAnyH_take (i := 11) (oi := { dst := some 148, op := Go.Op.extract (Go.Operand.tmp 137) 2, type := 5, pos := _, after := #[{ on := 8, ground := Go.Ground.data }, { on := 14, ground := Go.Ground.gcOnly Go.Departure.lateStores }], guard := none }) (v := ?_) rfl (by kernel_rfl) (by kernel_rfl) (by kernel_rfl) (fun _ _ _ h => h) (Or.inl ⟨by rfl, ?_⟩) S7.out ?_
              rotate_left
              · intro W hW; (go_simp; try with_reducible rfl)
              try simp only [Act.put, List.setIfInBounds_toArray, List.set_cons_zero, List.set_cons_succ]
              refine wpAnyH_ready (rs := [13]) (by kernel_rfl) (by simp) ?_
              refine ready_store_cs (o := { dst := none, op := Go.Op.store 26 (Go.Operand.tmp 24) (Go.Operand.tmp 146), type := 0, pos := _, after := #[{ on := 12, ground := Go.Ground.data }, { on := 9, ground := Go.Ground.data }, { on := 7, ground := Go.Ground.chain }, { on := 0, ground := Go.Ground.phase }, { on := 1, ground := Go.Ground.phase }, { on := 2, ground := Go.Ground.phase }, { on := 3, ground := Go.Ground.phase }, { on := 4, ground := Go.Ground.phase }, { on := 5, ground := Go.Ground.phase }, { on := 6, ground := Go.Ground.phase }, { on := 7, ground := Go.Ground.phase }, { on := 8, ground := Go.Ground.phase }, { on := 9, ground := Go.Ground.phase }, { on := 10, ground := Go.Ground.textOnly Go.Departure.lateStores }, { on := 11, ground := Go.Ground.textOnly Go.Departure.lateStores }, { on := 12, ground := Go.Ground.phase }], guard := none }) rfl rfl 26 (.tmp 24) (.tmp 146) rfl ga (nmL M.zero8) (nmL tf) rfl rfl GA_7.out (by unfold nmL; rw [List.length_map, List.length_map, HF.out]; rfl) (size_nmL HF.out) (nm_one tf) (fun W5 N5 O5 => ?_) AllReadyH.nil
              have M5 := Lib.hid N5
              have S5 := Lib.hid (S7.out.trans (O5.below LG.out S7.out.size))
              clear N5 O5
              refine ⟨S5.out, ?_⟩
              try simp only [Act.put]
              refine wpAnyH_take (i := 14) (oi := { dst := some 25, op := Go.Op.assign (Go.Operand.tmp 147), type := 27, pos := _, after := #[{ on := 10, ground := Go.Ground.data }, { on := 13, ground := Go.Ground.chain }, { on := 0, ground := Go.Ground.phase }, { on := 1, ground := Go.Ground.phase }, { on := 2, ground := Go.Ground.phase }, { on := 3, ground := Go.Ground.phase }, { on := 4, ground := Go.Ground.phase }, { on := 5, ground := Go.Ground.phase }, { on := 6, ground := Go.Ground.phase }, { on := 7, ground := Go.Ground.phase }, { on := 8, ground := Go.Ground.phase }, { on := 9, ground := Go.Ground.phase }, { on := 10, ground := Go.Ground.phase }, { on := 11, ground := Go.Ground.textOnly Go.Departure.lateStores }, { on := 12, ground := Go.Ground.phase }, { on := 13, ground := Go.Ground.phase }], guard := none }) (v := ?_) rfl (by kernel_rfl) (by kernel_rfl) (by kernel_rfl) (fun _ _ _ h => h) (Or.inl ⟨by rfl, ?_⟩) S5.out ?_
              rotate_left
              · intro W hW; (go_simp; try with_reducible rfl)
              try simp only [Act.put, List.setIfInBounds_toArray, List.set_cons_zero, List.set_cons_succ]
              refine wpAnyH_take (i := 15) (oi := { dst := some 26, op := Go.Op.assign (Go.Operand.tmp 148), type := 5, pos := _, after := #[{ on := 11, ground := Go.Ground.data }, { on := 14, ground := Go.Ground.chain }, { on := 0, ground := Go.Ground.phase }, { on := 1, ground := Go.Ground.phase }, { on := 2, ground := Go.Ground.phase }, { on := 3, ground := Go.Ground.phase }, { on := 4, ground := Go.Ground.phase }, { on := 5, ground := Go.Ground.phase }, { on := 6, ground := Go.Ground.phase }, { on := 7, ground := Go.Ground.phase }, { on := 8, ground := Go.Ground.phase }, { on := 9, ground := Go.Ground.phase }, { on := 10, ground := Go.Ground.phase }, { on := 11, ground := Go.Ground.phase }, { on := 12, ground := Go.Ground.phase }, { on := 13, ground := Go.Ground.phase }, { on := 14, ground := Go.Ground.phase }], guard := none }) (v := ?_) rfl (by kernel_rfl) (by kernel_rfl) (by kernel_rfl) (fun _ _ _ h => h) (Or.inl ⟨by rfl, ?_⟩) S5.out ?_
              rotate_left
              · intro W hW; (go_simp; try with_reducible rfl)
              try simp only [Act.put, List.setIfInBounds_toArray, List.set_cons_zero, List.set_cons_succ]
              refine wpAnyH_done (by kernel_rfl) ?_ _
              refine NoPanic.normal ?_
              have L16 := Lib.hid (L15.out.below S5.out)
              have cx0 := L16.out.x.cell (i := 0) rfl
              have cy0 := L16.out.y.cell (i := 0) rfl
              have Rx := Lib.hid (ask_nm L16.out.x)
              have Ry := Lib.hid (ask_nm L16.out.y)
              have X16 := Lib.hid (step_ X15.out S5.out)
              go_wp2_with (first
                | go_skip
                | (refine wanted_on rfl ?_; refine wpList_load_nm rfl _ rfl ga 0 tf rfl M5.out.range HF.out ?_)
                | (refine wanted_on rfl ?_; refine wpList_load_nm rfl _ rfl g2 2 tf rfl Ry.out HF.out ?_)
                | (refine wanted_on rfl ?_; refine wpList_val rfl _ (exec_eq_nm _ _ _ rfl tf tf rfl rfl HF.out HF.out) ?_; rw [TE.out]))
              refine (alive_is _).mono ?_
              rintro e wz ⟨rfl, bz⟩
              have WZ := Lib.hid (step_ X16.out bz)
              clear bz
              go_wp2_with fail
              go_ret
              exact ⟨rfl, WZ.out⟩
            refine ready_alloc26 (o := { dst := some 24, op := Go.Op.alloc 26, type := 0, pos := _, after := #[], guard := none }) rfl rfl rfl (fun ga wa9 ea9 Na9 b9 => ?_) AllReadyH.nil
            have S9 := Lib.hid (step_ S1.out b9)
            have L_9 := Lib.hid (L_1.out.below b9)
            have RB_9 := Lib.hid (RB_1.out.below b9)
            have RO_9 := Lib.hid (RO_1.out.below b9)
            have RJ_9 := Lib.hid (RJ_1.out.below b9)
            have GA_9 := Lib.hid Na9
            have LG := Lib.hid (show w15.heap.size ≤ ga by have := S1.out.size; omega)
            clear b9 Na9 ea9
            refine ⟨S9.out, ?_⟩
            try simp only [Act.put, List.setIfInBounds_toArray, List.set_cons_zero, List.set_cons_succ]
            refine wpAnyH_ready (rs := [4]) (by kernel_rfl) (by simp) ?_
            refine AllReadyH.cons (o := { dst := some 142, op := Go.Op.call { callee := Go.Callee.value (Go.Operand.func 17), args := #[Go.Operand.tmp 140, Go.Operand.tmp 141], argTypes := #[22, 22] }, type := 22, pos := _, after := #[{ on := 2, ground := Go.Ground.data }, { on := 3, ground := Go.Ground.data }, { on := 2, ground := Go.Ground.chain }], guard := none }) rfl (fun K hK => ?_) AllReadyH.nil
            go_simp
            refine (refJoin_is _ Ao _ no _ co (join a lb) one _ RJ_9.out RO_9.out (by have := RJ_9.out.len; have := JL.out; omega) (by have := RO_9.out.len; have := OL.out; omega)).mono ?_
            rintro e w10 ⟨⟨Ax10, nx10, cx10, rfl, v10⟩, b10⟩
            have S10 := Lib.hid (step_ S9.out b10)
            have L_10 := Lib.hid (L_9.out.below b10)
            have RB_10 := Lib.hid (RB_9.out.below b10)
            have RO_10 := Lib.hid (RO_9.out.below b10)
            have RJ_10 := Lib.hid (RJ_9.out.below b10)
            have GA_10 := Lib.hid (GA_9.out.below b10)
            have RF_10 := Lib.hid (v10)
            clear b10 v10
            go_wp2_with fail
            refine hK.out _ _ S10.out (fun _ => ?_)
            clear hK K
            try simp only [Act.put, List.setIfInBounds_toArray, List.set_cons_zero, List.set_cons_succ]
            refine wpAnyH_ready (rs := [7]) (by kernel_rfl) (by simp) ?_
            refine AllReadyH.cons (o := { dst := some 145, op := Go.Op.call { callee := Go.Callee.value (Go.Operand.func 7), args := #[Go.Operand.tmp 142, Go.Operand.tmp 144], argTypes := #[22, 23] }, type := 28, pos := _, after := #[{ on := 4, ground := Go.Ground.data }, { on := 6, ground := Go.Ground.data }, { on := 4, ground := Go.Ground.chain }], guard := none }) rfl (fun K hK => ?_) AllReadyH.nil
            go_simp
            refine (get_at _ _ _ (join (join a lb) one) c tf (nn + 1) rf _ RF_10.out (by have := RF_10.out.len; have := FL.out; omega) hcr HVF).mono ?_
            rintro e w11 ⟨rfl, b11⟩
            have S11 := Lib.hid (step_ S10.out b11)
            have L_11 := Lib.hid (L_10.out.below b11)
            have RB_11 := Lib.hid (RB_10.out.below b11)
            have RO_11 := Lib.hid (RO_10.out.below b11)
            have RJ_11 := Lib.hid (RJ_10.out.below b11)
            have GA_11 := Lib.hid (GA_10.out.below b11)
            have RF_11 := Lib.hid (RF_10.out.below b11)
            clear b11
            go_wp2_with fail
            refine hK.out _ _ S11.out (fun _ => ?_)
            clear hK K
            try simp only [Act.put, List.setIfInBounds_toArray, List.set_cons_zero, List.set_cons_succ]
            refine wpAnyH_take (i := 8) (oi := { dst := some 137, op := Go.Op.move (Go.Operand.tmp 145), type := 28, pos := _, after := #[{ on := 7, ground := Go.Ground.data }], guard := none }) (v := ?_) rfl (by kernel_rfl) (by kernel_rfl) (by kernel_rfl) (fun _ _ _ h => h) (Or.inl ⟨by rfl, ?_⟩) S11.out ?_
            rotate_left
            · intro W hW; (go_simp; try with_reducible rfl)
            try simp only [Act.put, List.setIfInBounds_toArray, List.set_cons_zero, List.set_cons_succ]
            refine wpAnyH_take (i := 9) (oi := { dst := some 146, op := Go.Op.extract (Go.Operand.tmp 137) 0, type := 26, pos := _, after := #[{ on := 8, ground := Go.Ground.data }], guard := none }) (v := ?_) rfl (by kernel_rfl) (by kernel_rfl) (by kernel_rfl) (fun _ _ _ h => h) (Or.inl ⟨by rfl, ?_⟩) S11.out ?_
            rotate_left
            · intro W hW; (go_simp; try with_reducible rfl)
            try simp only [Act.put, List.setIfInBounds_toArray, List.set_cons_zero, List.set_cons_succ]
            refine wpAnyH_take (i := 10) (oi := { dst := some 147, op := Go.Op.extract (Go.Operand.tmp 137) 1, type := 27, pos := _, after := #[{ on := 8, ground := Go.Ground.data }, { on := 13, ground := Go.Ground.gcOnly Go.Departure.lateStores }], guard := none }) (v := ?_) rfl (by kernel_rfl) (by kernel_rfl) (by kernel_rfl) (fun _ _ _ h => h) (Or.inl ⟨by rfl, ?_⟩) S11.out ?_
            rotate_left
            · intro W hW; (go_simp; try with_reducible rfl)
            try simp only [Act.put, List.setIfInBounds_toArray, List.set_cons_zero, List.set_cons_succ]
            refine wpAnyH_take (i := 11) (oi := { dst := some 148, op := Go.Op.extract (Go.Operand.tmp 137) 2, type := 5, pos := _, after := #[{ on := 8, ground := Go.Ground.data }, { on := 14, ground := Go.Ground.gcOnly Go.Departure.lateStores }], guard := none }) (v := ?_) rfl (by kernel_rfl) (by kernel_rfl) (by kernel_rfl) (fun _ _ _ h => h) (Or.inl ⟨by rfl, ?_⟩) S11.out ?_
            rotate_left
            · intro W hW; (go_simp; try with_reducible rfl)
            try simp only [Act.put, List.setIfInBounds_toArray, List.set_cons_zero, List.set_cons_succ]
            refine wpAnyH_ready (rs := [13]) (by kernel_rfl) (by simp) ?_
            refine ready_store_cs (o := { dst := none, op := Go.Op.store 26 (Go.Operand.tmp 24) (Go.Operand.tmp 146), type := 0, pos := _, after := #[{ on := 12, ground := Go.Ground.data }, { on := 9, ground := Go.Ground.data }, { on := 7, ground := Go.Ground.chain }, { on := 0, ground := Go.Ground.phase }, { on := 1, ground := Go.Ground.phase }, { on := 2, ground := Go.Ground.phase }, { on := 3, ground := Go.Ground.phase }, { on := 4, ground := Go.Ground.phase }, { on := 5, ground := Go.Ground.phase }, { on := 6, ground := Go.Ground.phase }, { on := 7, ground := Go.Ground.phase }, { on := 8, ground := Go.Ground.phase }, { on := 9, ground := Go.Ground.phase }, { on := 10, ground := Go.Ground.textOnly Go.Departure.lateStores }, { on := 11, ground := Go.Ground.textOnly Go.Departure.lateStores }, { on := 12, ground := Go.Ground.phase }], guard := none }) rfl rfl 26 (.tmp 24) (.tmp 146) rfl ga (nmL M.zero8) (nmL tf) rfl rfl GA_11.out (by unfold nmL; rw [List.length_map, List.length_map, HF.out]; rfl) (size_nmL HF.out) (nm_one tf) (fun W5 N5 O5 => ?_) AllReadyH.nil
            have M5 := Lib.hid N5
            have S5 := Lib.hid (S11.out.trans (O5.below LG.out S11.out.size))
            clear N5 O5
            refine ⟨S5.out, ?_⟩
            try simp only [Act.put]
            refine wpAnyH_take (i := 14) (oi := { dst := some 25, op := Go.Op.assign (Go.Operand.tmp 147), type := 27, pos := _, after := #[{ on := 10, ground := Go.Ground.data }, { on := 13, ground := Go.Ground.chain }, { on := 0, ground := Go.Ground.phase }, { on := 1, ground := Go.Ground.phase }, { on := 2, ground := Go.Ground.phase }, { on := 3, ground := Go.Ground.phase }, { on := 4, ground := Go.Ground.phase }, { on := 5, ground := Go.Ground.phase }, { on := 6, ground := Go.Ground.phase }, { on := 7, ground := Go.Ground.phase }, { on := 8, ground := Go.Ground.phase }, { on := 9, ground := Go.Ground.phase }, { on := 10, ground := Go.Ground.phase }, { on := 11, ground := Go.Ground.textOnly Go.Departure.lateStores }, { on := 12, ground := Go.Ground.phase }, { on := 13, ground := Go.Ground.phase }], guard := none }) (v := ?_) rfl (by kernel_rfl) (by kernel_rfl) (by kernel_rfl) (fun _ _ _ h => h) (Or.inl ⟨by rfl, ?_⟩) S5.out ?_
            rotate_left
            · intro W hW; (go_simp; try with_reducible rfl)
            try simp only [Act.put, List.setIfInBounds_toArray, List.set_cons_zero, List.set_cons_succ]
            refine wpAnyH_take (i := 15) (oi := { dst := some 26, op := Go.Op.assign (Go.Operand.tmp 148), type := 5, pos := _, after := #[{ on := 11, ground := Go.Ground.data }, { on := 14, ground := Go.Ground.chain }, { on := 0, ground := Go.Ground.phase }, { on := 1, ground := Go.Ground.phase }, { on := 2, ground := Go.Ground.phase }, { on := 3, ground := Go.Ground.phase }, { on := 4, ground := Go.Ground.phase }, { on := 5, ground := Go.Ground.phase }, { on := 6, ground := Go.Ground.phase }, { on := 7, ground := Go.Ground.phase }, { on := 8, ground := Go.Ground.phase }, { on := 9, ground := Go.Ground.phase }, { on := 10, ground := Go.Ground.phase }, { on := 11, ground := Go.Ground.phase }, { on := 12, ground := Go.Ground.phase }, { on := 13, ground := Go.Ground.phase }, { on := 14, ground := Go.Ground.phase }], guard := none }) (v := ?_) rfl (by kernel_rfl) (by kernel_rfl) (by kernel_rfl) (fun _ _ _ h => h) (Or.inl ⟨by rfl, ?_⟩) S5.out ?_
            rotate_left
            · intro W hW; (go_simp; try with_reducible rfl)
            try simp only [Act.put, List.setIfInBounds_toArray, List.set_cons_zero, List.set_cons_succ]
            refine wpAnyH_done (by kernel_rfl) ?_ _
            refine NoPanic.normal ?_
            have L16 := Lib.hid (L15.out.below S5.out)
            have cx0 := L16.out.x.cell (i := 0) rfl
            have cy0 := L16.out.y.cell (i := 0) rfl
            have Rx := Lib.hid (ask_nm L16.out.x)
            have Ry := Lib.hid (ask_nm L16.out.y)
            have X16 := Lib.hid (step_ X15.out S5.out)
            go_wp2_with (first
              | go_skip
              | (refine wanted_on rfl ?_; refine wpList_load_nm rfl _ rfl ga 0 tf rfl M5.out.range HF.out ?_)
              | (refine wanted_on rfl ?_; refine wpList_load_nm rfl _ rfl g2 2 tf rfl Ry.out HF.out ?_)
              | (refine wanted_on rfl ?_; refine wpList_val rfl _ (exec_eq_nm _ _ _ rfl tf tf rfl rfl HF.out HF.out) ?_; rw [TE.out]))
            refine (alive_is _).mono ?_
            rintro e wz ⟨rfl, bz⟩
            have WZ := Lib.hid (step_ X16.out bz)
            clear bz
            go_wp2_with fail
            go_ret
            exact ⟨rfl, WZ.out⟩
          refine ready_alloc26 (o := { dst := some 24, op := Go.Op.alloc 26, type := 0, pos := _, after := #[], guard := none }) rfl rfl rfl (fun ga wa13 ea13 Na13 b13 => ?_) AllReadyH.nil
          have S13 := Lib.hid (step_ S0.out b13)
          have L_13 := Lib.hid (L15b.out.below b13)
          have RB_13 := Lib.hid (RB15b.out.below b13)
          have RO_13 := Lib.hid (RO15b.out.below b13)
          have GA_13 := Lib.hid Na13
          have LG := Lib.hid (show w15.heap.size ≤ ga by have := S0.out.size; omega)
          clear b13 Na13 ea13
          refine ⟨S13.out, ?_⟩
          try simp only [Act.put, List.setIfInBounds_toArray, List.set_cons_zero, List.set_cons_succ]
          refine wpAnyH_ready (rs := [2]) (by kernel_rfl) (by simp) ?_
          refine AllReadyH.cons (o := { dst := some 140, op := Go.Op.call { callee := Go.Callee.value (Go.Operand.func 17), args := #[Go.Operand.tmp 138, Go.Operand.tmp 139], argTypes := #[22, 22] }, type := 22, pos := _, after := #[{ on := 0, ground := Go.Ground.data }, { on := 1, ground := Go.Ground.data }], guard := none }) rfl (fun K hK => ?_) AllReadyH.nil
          go_simp
          refine (refJoin_is A Ab n nb cap cb a lb _ (L_13.out.r) RB_13.out (by omega) (by have := RB_13.out.len; have := LB.out; omega)).mono ?_
          rintro e w14 ⟨⟨Ax14, nx14, cx14, rfl, v14⟩, b14⟩
          have S14 := Lib.hid (step_ S13.out b14)
          have L_14 := Lib.hid (L_13.out.below b14)
          have RB_14 := Lib.hid (RB_13.out.below b14)
          have RO_14 := Lib.hid (RO_13.out.below b14)
          have GA_14 := Lib.hid (GA_13.out.below b14)
          have RJ_14 := Lib.hid (v14)
          clear b14 v14
          go_wp2_with fail
          refine hK.out _ _ S14.out (fun _ => ?_)
          clear hK K
          try simp only [Act.put, List.setIfInBounds_toArray, List.set_cons_zero, List.set_cons_succ]
          refine wpAnyH_ready (rs := [4]) (by kernel_rfl) (by simp) ?_
          refine AllReadyH.cons (o := { dst := some 142, op := Go.Op.call { callee := Go.Callee.value (Go.Operand.func 17), args := #[Go.Operand.tmp 140, Go.Operand.tmp 141], argTypes := #[22, 22] }, type := 22, pos := _, after := #[{ on := 2, ground := Go.Ground.data }, { on := 3, ground := Go.Ground.data }, { on := 2, ground := Go.Ground.chain }], guard := none }) rfl (fun K hK => ?_) AllReadyH.nil
          go_simp
          refine (refJoin_is _ Ao _ no _ co (join a lb) one _ RJ_14.out RO_14.out (by have := RJ_14.out.len; have := JL.out; omega) (by have := RO_14.out.len; have := OL.out; omega)).mono ?_
          rintro e w15 ⟨⟨Ax15, nx15, cx15, rfl, v15⟩, b15⟩
          have S15 := Lib.hid (step_ S14.out b15)
          have L_15 := Lib.hid (L_14.out.below b15)
          have RB_15 := Lib.hid (RB_14.out.below b15)
          have RO_15 := Lib.hid (RO_14.out.below b15)
          have GA_15 := Lib.hid (GA_14.out.below b15)
          have RJ_15 := Lib.hid (RJ_14.out.below b15)
          have RF_15 := Lib.hid (v15)
          clear b15 v15
          go_wp2_with fail
          refine hK.out _ _ S15.out (fun _ => ?_)
          clear hK K
          try simp only [Act.put, List.setIfInBounds_toArray, List.set_cons_zero, List.set_cons_succ]
          refine wpAnyH_ready (rs := [7]) (by kernel_rfl) (by simp) ?_
          refine AllReadyH.cons (o := { dst := some 145, op := Go.Op.call { callee := Go.Callee.value (Go.Operand.func 7), args := #[Go.Operand.tmp 142, Go.Operand.tmp 144], argTypes := #[22, 23] }, type := 28, pos := _, after := #[{ on := 4, ground := Go.Ground.data }, { on := 6, ground := Go.Ground.data }, { on := 4, ground := Go.Ground.chain }], guard := none }) rfl (fun K hK => ?_) AllReadyH.nil
          go_simp
          refine (get_at _ _ _ (join (join a lb) one) c tf (nn + 1) rf _ RF_15.out (by have := RF_15.out.len; have := FL.out; omega) hcr HVF).mono ?_
          rintro e w16 ⟨rfl, b16⟩
          have S16 := Lib.hid (step_ S15.out b16)
          have L_16 := Lib.hid (L_15.out.below b16)
          have RB_16 := Lib.hid (RB_15.out.below b16)
          have RO_16 := Lib.hid (RO_15.out.below b16)
          have GA_16 := Lib.hid (GA_15.out.below b16)
          have RJ_16 := Lib.hid (RJ_15.out.below b16)
          have RF_16 := Lib.hid (RF_15.out.below b16)
          clear b16
          go_wp2_with fail
          refine hK.out _ _ S16.out (fun _ => ?_)
          clear hK K
          try simp only [Act.put, List.setIfInBounds_toArray, List.set_cons_zero, List.set_cons_succ]
          refine wpAnyH_take (i := 8) (oi := { dst := some 137, op := Go.Op.move (Go.Operand.tmp 145), type := 28, pos := _, after := #[{ on := 7, ground := Go.Ground.data }], guard := none }) (v := ?_) rfl (by kernel_rfl) (by kernel_rfl) (by kernel_rfl) (fun _ _ _ h => h) (Or.inl ⟨by rfl, ?_⟩) S16.out ?_
          rotate_left
          · intro W hW; (go_simp; try with_reducible rfl)
          try simp only [Act.put, List.setIfInBounds_toArray, List.set_cons_zero, List.set_cons_succ]
          refine wpAnyH_take (i := 9) (oi := { dst := some 146, op := Go.Op.extract (Go.Operand.tmp 137) 0, type := 26, pos := _, after := #[{ on := 8, ground := Go.Ground.data }], guard := none }) (v := ?_) rfl (by kernel_rfl) (by kernel_rfl) (by kernel_rfl) (fun _ _ _ h => h) (Or.inl ⟨by rfl, ?_⟩) S16.out ?_
          rotate_left
          · intro W hW; (go_simp; try with_reducible rfl)
          try simp only [Act.put, List.setIfInBounds_toArray, List.set_cons_zero, List.set_cons_succ]
          refine wpAnyH_take (i := 10) (oi := { dst := some 147, op := Go.Op.extract (Go.Operand.tmp 137) 1, type := 27, pos := _, after := #[{ on := 8, ground := Go.Ground.data }, { on := 13, ground := Go.Ground.gcOnly Go.Departure.lateStores }], guard := none }) (v := ?_) rfl (by kernel_rfl) (by kernel_rfl) (by kernel_rfl) (fun _ _ _ h => h) (Or.inl ⟨by rfl, ?_⟩) S16.out ?_
          rotate_left
          · intro W hW; (go_simp; try with_reducible rfl)
          try simp only [Act.put, List.setIfInBounds_toArray, List.set_cons_zero, List.set_cons_succ]
          refine wpAnyH_take (i := 11) (oi := { dst := some 148, op := Go.Op.extract (Go.Operand.tmp 137) 2, type := 5, pos := _, after := #[{ on := 8, ground := Go.Ground.data }, { on := 14, ground := Go.Ground.gcOnly Go.Departure.lateStores }], guard := none }) (v := ?_) rfl (by kernel_rfl) (by kernel_rfl) (by kernel_rfl) (fun _ _ _ h => h) (Or.inl ⟨by rfl, ?_⟩) S16.out ?_
          rotate_left
          · intro W hW; (go_simp; try with_reducible rfl)
          try simp only [Act.put, List.setIfInBounds_toArray, List.set_cons_zero, List.set_cons_succ]
          refine wpAnyH_ready (rs := [13]) (by kernel_rfl) (by simp) ?_
          refine ready_store_cs (o := { dst := none, op := Go.Op.store 26 (Go.Operand.tmp 24) (Go.Operand.tmp 146), type := 0, pos := _, after := #[{ on := 12, ground := Go.Ground.data }, { on := 9, ground := Go.Ground.data }, { on := 7, ground := Go.Ground.chain }, { on := 0, ground := Go.Ground.phase }, { on := 1, ground := Go.Ground.phase }, { on := 2, ground := Go.Ground.phase }, { on := 3, ground := Go.Ground.phase }, { on := 4, ground := Go.Ground.phase }, { on := 5, ground := Go.Ground.phase }, { on := 6, ground := Go.Ground.phase }, { on := 7, ground := Go.Ground.phase }, { on := 8, ground := Go.Ground.phase }, { on := 9, ground := Go.Ground.phase }, { on := 10, ground := Go.Ground.textOnly Go.Departure.lateStores }, { on := 11, ground := Go.Ground.textOnly Go.Departure.lateStores }, { on := 12, ground := Go.Ground.phase }], guard := none }) rfl rfl 26 (.tmp 24) (.tmp 146) rfl ga (nmL M.zero8) (nmL tf) rfl rfl GA_16.out (by unfold nmL; rw [List.length_map, List.length_map, HF.out]; rfl) (size_nmL HF.out) (nm_one tf) (fun W5 N5 O5 => ?_) AllReadyH.nil
          have M5 := Lib.hid N5
          have S5 := Lib.hid (S16.out.trans (O5.below LG.out S16.out.size))
          clear N5 O5
          refine ⟨S5.out, ?_⟩
          try simp only [Act.put]
          refine wpAnyH_take (i := 14) (oi := { dst := some 25, op := Go.Op.assign (Go.Operand.tmp 147), type := 27, pos := _, after := #[{ on := 10, ground := Go.Ground.data }, { on := 13, ground := Go.Ground.chain }, { on := 0, ground := Go.Ground.phase }, { on := 1, ground := Go.Ground.phase }, { on := 2, ground := Go.Ground.phase }, { on := 3, ground := Go.Ground.phase }, { on := 4, ground := Go.Ground.phase }, { on := 5, ground := Go.Ground.phase }, { on := 6, ground := Go.Ground.phase }, { on := 7, ground := Go.Ground.phase }, { on := 8, ground := Go.Ground.phase }, { on := 9, ground := Go.Ground.phase }, { on := 10, ground := Go.Ground.phase }, { on := 11, ground := Go.Ground.textOnly Go.Departure.lateStores }, { on := 12, ground := Go.Ground.phase }, { on := 13, ground := Go.Ground.phase }], guard := none }) (v := ?_) rfl (by kernel_rfl) (by kernel_rfl) (by kernel_rfl) (fun _ _ _ h => h) (Or.inl ⟨by rfl, ?_⟩) S5.out ?_
          rotate_left
          · intro W hW; (go_simp; try with_reducible rfl)
          try simp only [Act.put, List.setIfInBounds_toArray, List.set_cons_zero, List.set_cons_succ]
          refine wpAnyH_take (i := 15) (oi := { dst := some 26, op := Go.Op.assign (Go.Operand.tmp 148), type := 5, pos := _, after := #[{ on := 11, ground := Go.Ground.data }, { on := 14, ground := Go.Ground.chain }, { on := 0, ground := Go.Ground.phase }, { on := 1, ground := Go.Ground.phase }, { on := 2, ground := Go.Ground.phase }, { on := 3, ground := Go.Ground.phase }, { on := 4, ground := Go.Ground.phase }, { on := 5, ground := Go.Ground.phase }, { on := 6, ground := Go.Ground.phase }, { on := 7, ground := Go.Ground.phase }, { on := 8, ground := Go.Ground.phase }, { on := 9, ground := Go.Ground.phase }, { on := 10, ground := Go.Ground.phase }, { on := 11, ground := Go.Ground.phase }, { on := 12, ground := Go.Ground.phase }, { on := 13, ground := Go.Ground.phase }, { on := 14, ground := Go.Ground.phase }], guard := none }) (v := ?_) rfl (by kernel_rfl) (by kernel_rfl) (by kernel_rfl) (fun _ _ _ h => h) (Or.inl ⟨by rfl, ?_⟩) S5.out ?_
          rotate_left
          · intro W hW; (go_simp; try with_reducible rfl)
          try simp only [Act.put, List.setIfInBounds_toArray, List.set_cons_zero, List.set_cons_succ]
          refine wpAnyH_done (by kernel_rfl) ?_ _
          refine NoPanic.normal ?_
          have L16 := Lib.hid (L15.out.below S5.out)
          have cx0 := L16.out.x.cell (i := 0) rfl
          have cy0 := L16.out.y.cell (i := 0) rfl
          have Rx := Lib.hid (ask_nm L16.out.x)
          have Ry := Lib.hid (ask_nm L16.out.y)
          have X16 := Lib.hid (step_ X15.out S5.out)
          go_wp2_with (first
            | go_skip
            | (refine wanted_on rfl ?_; refine wpList_load_nm rfl _ rfl ga 0 tf rfl M5.out.range HF.out ?_)
            | (refine wanted_on rfl ?_; refine wpList_load_nm rfl _ rfl g2 2 tf rfl Ry.out HF.out ?_)
            | (refine wanted_on rfl ?_; refine wpList_val rfl _ (exec_eq_nm _ _ _ rfl tf tf rfl rfl HF.out HF.out) ?_; rw [TE.out]))
          refine (alive_is _).mono ?_
          rintro e wz ⟨rfl, bz⟩
          have WZ := Lib.hid (step_ X16.out bz)
          clear bz
          go_wp2_with fail
          go_ret
          exact ⟨rfl, WZ.out⟩
    · have hq : (f != 0) = true := by simpa using hf0
      clear hf0 hf hnn
      go_wp2_with go_skip
      clear cx0 cy0
      refine (alive_is w13).mono ?_
      rintro e wz ⟨rfl, bz⟩
      have WZ := Lib.hid (step_ X13.out bz)
      clear bz
      go_wp2_with go_skip
      go_ret
      exact ⟨rfl, WZ.out⟩
  · have hb : (e1 != 0) = true := by simpa using h1
    have LA0 := Lib.hid (show la = [] by rw [← hla]; unfold putL; rw [if_neg (by rw [HE1.out]; exact h1)])
    clear he1 hla hnn h1
    go_enter Try.func5, Try.ntmps5
    go_wp2_with (first | go_skip | (refine wpList_box_cs rfl _ rfl (ask rx c tx) rfl ?_; intro g1 w1 eg1 G1 b1) | (refine wpList_box_cs rfl _ rfl (ask ry cy ty) rfl ?_; intro g2 w2 eg2 G2 b2; have X2 := Lib.hid (step_ b1.out b2.out); have L2 := Lib.hid (LW.mk (G1.out.below b2.out) G2.out (H.out.below X2.out)); have ca0 := L2.out.x.cell (i := 0) rfl; have ca1 := L2.out.x.cell (i := 1) rfl; have R2 := Lib.hid (ask_nm L2.out.x)) | (refine wpList_load_nm rfl _ rfl g1 2 tx rfl R2.out HX.out.1 ?_))
    refine (nput_is A n cap a rx c tx e1 la _ L2.out.r (by omega) HX.out hcr hrx HE1 HLA).mono ?_
    rintro e w3 ⟨⟨Aa, na, ca, rfl, va⟩, b3⟩
    have X3 := Lib.hid (step_ X2.out b3)
    obtain rfl : na = 0 := by rw [← va.len, LA0.out]; rfl
    clear va ca0 ca1 R2 b3
    go_wp2_with fail
    refine (alive_is w3).mono ?_
    rintro e wz ⟨rfl, bz⟩
    have WZ := Lib.hid (step_ X3.out bz)
    clear bz
    go_wp2_with go_skip
    go_ret
    exact ⟨rfl, WZ.out⟩
end Go.Proofs.Ytgggjhbijnndhaa
