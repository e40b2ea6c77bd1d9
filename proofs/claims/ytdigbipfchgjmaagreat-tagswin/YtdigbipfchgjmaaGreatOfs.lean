/- The contract of Bump. The contracts of Of of package vec and of the reference. The contract of Of of the reference. -/
import Derived.Test.YtdigbipfchgjmaaGreatJoins
import Derived.Test.YtdigbipfchgjmaaGreatMathV
import Derived.Test.YtdigbipfchgjmaaGreatLeq
namespace Go.Proofs.YtdigbipfchgjmaaGreat
open Go.RowKit

/-- What Bump answers. -/
def bumpE (l : List Int) (k : Nat) : Int := if 16 ≤ k then 1 else if l.getD k 0 = 4294967295 then 8 else 0
def bumpV (l : List Int) (k : Nat) : List Int := if 16 ≤ k then vz else if l.getD k 0 = 4294967295 then vz else l.set k (l.getD k 0 + 1)
theorem wrap_u32 {x : Int} (h0 : 0 ≤ x) (h1 : x < 4294967296) : IntKind.u32.wrap x = x := by
  show (x % 4294967296 : Int) = x
  omega
theorem bumpV_len {l : List Int} (h : l.length = 16) (k : Nat) : (bumpV l k).length = 16 := by
  unfold bumpV; split
  · rfl
  · split
    · rfl
    · rw [List.length_set]; exact h
set_option maxRecDepth 100000 in
theorem bump_is (l m : List Int) (k : Nat) (e0 : Int) (w : World) (h : VOk l) (he : Hid (bumpE l k = e0)) (hm : Hid (bumpV l k = m)) : Calls Tryz.prog 34 #[.agg (vc l).toArray, .int .u8 (k : Int)] w fun e w' => e = .returned (.tuple #[.agg (vc m).toArray, .int .i64 e0]) ∧ Below w.heap.size w w' := by
  have hz := zero24
  have HL := Lib.hid h
  have Q1 := Lib.hid ((blk_alloc w 74 (vc l)).alloc (.cells (vc vz).toArray 74))
  have Q2 := Lib.hid (blk2 w (.cells (vc l).toArray 74) 74 (vc vz))
  have B0 := Lib.hid (step_ (new_below w (.cells (vc l).toArray 74)) (new_below _ (.cells (vc vz).toArray 74)))
  clear h
  by_cases hk : 16 ≤ k
  · have hk' : (16 : Int) ≤ (k : Int) := by omega
    obtain rfl : (1 : Int) = e0 := by rw [← he.out]; unfold bumpE; rw [if_pos hk]
    obtain rfl : vz = m := by rw [← hm.out]; unfold bumpV; rw [if_pos hk]
    go_enter Tryz.func34, Tryz.ntmps34
    go_wp2_with (first
      | refine wpList_build rfl 74 _ rfl [] rfl _ built24_0 ?_
      | (refine wpList_store_v t24 rfl _ _ rfl (w.heap.size + 1) vz vz rfl rfl Q2.out rfl rfl ?_; intro w1 N1 O1))
    refine bodyPost_ret (results_vE t24 rfl _ _ (w.heap.size + 1) vz rfl N1.out rfl) rfl ?_
    exact ⟨rfl, B0.out.trans (O1.out.below (by omega) B0.out.size)⟩
  · have hk' : ¬ (16 : Int) ≤ (k : Int) := by omega
    have hk2 : k < 16 := by omega
    obtain ⟨x, hx⟩ : ∃ x, l.getD k 0 = x := ⟨_, rfl⟩
    have hx' : l[k]? = some x := by rw [← hx, getD_at (by rw [HL.out.len]; exact hk2)]; exact List.getElem?_eq_getElem _
    have ca := Q1.out.cell (vc_at hx')
    have fr := Q1.out.frozen k
    have hrg := Lib.hid (HL.out.rg x (List.mem_of_getElem? hx'))
    by_cases hs : x = 4294967295
    · have hs' : (x == 4294967295) = true := by simp [hs]
      obtain rfl : (8 : Int) = e0 := by rw [← he.out]; unfold bumpE; rw [if_neg hk, hx, if_pos hs]
      obtain rfl : vz = m := by rw [← hm.out]; unfold bumpV; rw [if_neg hk, hx, if_pos hs]
      clear hs hx hx' he hm hk
      go_enter Tryz.func34, Tryz.ntmps34
      go_wp2_with (first
        | refine wpList_build rfl 74 _ rfl [] rfl _ built24_0 ?_
        | (refine wpList_store_v t24 rfl _ _ rfl (w.heap.size + 1) vz vz rfl rfl Q2.out rfl rfl ?_; intro w1 N1 O1))
      refine bodyPost_ret (results_vE t24 rfl _ _ (w.heap.size + 1) vz rfl N1.out rfl) rfl ?_
      exact ⟨rfl, B0.out.trans (O1.out.below (by omega) B0.out.size)⟩
    · have hs' : (x == 4294967295) = false := by simp [hs]
      have hw : IntKind.u32.wrap (x + 1) = x + 1 := wrap_u32 (by have := hrg.out; omega) (by have := hrg.out; omega)
      obtain rfl : (0 : Int) = e0 := by rw [← he.out]; unfold bumpE; rw [if_neg hk, hx, if_neg hs]
      have HM := Lib.hid (show l.set k (x + 1) = m by rw [← hm.out]; unfold bumpV; rw [if_neg hk, hx, if_neg hs])
      have S1 := Lib.hid (show Blk ((w.alloc (.cells ((vc l).set k (.int .u32 (x + 1))).toArray 74)).alloc (.cells (vc vz).toArray 74)) w.heap.size 74 (vc (l.set k (x + 1))) by rw [vc_set]; exact (blk_alloc w 74 _).alloc _)
      have S2 := Lib.hid (show Blk ((w.alloc (.cells ((vc l).set k (.int .u32 (x + 1))).toArray 74)).alloc (.cells (vc vz).toArray 74)) (w.heap.size + 1) 74 (vc vz) from blk2 w (.cells ((vc l).set k (.int .u32 (x + 1))).toArray 74) 74 (vc vz))
      have S3 := Lib.hid (step_ (new_below w (.cells ((vc l).set k (.int .u32 (x + 1))).toArray 74)) (new_below _ (.cells (vc vz).toArray 74)))
      have SL := Lib.hid (show (l.set k (x + 1)).length = 16 by rw [List.length_set]; exact HL.out.len)
      clear hs hx hx' he hm hk
      go_enter Tryz.func34, Tryz.ntmps34
      go_wp2_with (first
        | refine wpList_load_v t24 rfl _ rfl w.heap.size 0 (l.set k (x + 1)) rfl S1.out.range SL.out ?_
        | (refine wpList_store_v t24 rfl _ _ rfl (w.heap.size + 1) vz (l.set k (x + 1)) rfl rfl S2.out rfl SL.out ?_; intro w1 N1 O1))
      refine bodyPost_ret (results_vE t24 rfl _ _ (w.heap.size + 1) (l.set k (x + 1)) rfl N1.out SL.out) rfl ?_
      exact ⟨by rw [HM.out]; rfl, S3.out.trans (O1.out.below (by omega) S3.out.size)⟩
end Go.Proofs.YtdigbipfchgjmaaGreat
namespace Go.Proofs.YtdigbipfchgjmaaGreat
open Go.RowKit Go.Shelf
attribute [local go_sem] Oper.semAt_some

theorem vup_no {v : List Int} {k : Ky} (h : k.s ≠ 1) : vup v k = v := by unfold vup; rw [if_neg h]
theorem vup_gt {v : List Int} {k : Ky} {r : Nat} {x : Int} (h : k.s = 1) (hr : k.r = (r : Int)) (hx : v[r]? = some x) (hlt : x < k.q) : v.set r k.q = vup v k := by
  unfold vup
  rw [if_pos h, hr, Int.toNat_natCast, List.getD_eq_getElem?_getD, hx, Option.getD_some]
  unfold mx; rw [if_pos hlt]
theorem vup_le {v : List Int} {k : Ky} {r : Nat} {x : Int} (h : k.s = 1) (hr : k.r = (r : Int)) (hx : v[r]? = some x) (hlt : ¬ x < k.q) : v = vup v k ∧ v.set r x = vup v k := by
  have e : v.set r x = v := by
    apply List.ext_getElem?
    intro i
    by_cases hi : i = r
    · subst hi; rw [List.getElem?_set_self (List.getElem?_eq_some_iff.1 hx).1, hx]
    · rw [List.getElem?_set_ne (by omega)]
  have e2 : v.set r x = vup v k := by
    unfold vup
    rw [if_pos h, hr, Int.toNat_natCast, List.getD_eq_getElem?_getD, hx, Option.getD_some]
    unfold mx; rw [if_neg hlt]
  exact ⟨by rw [← e2, e], e2⟩
theorem vup_max {v : List Int} {k : Ky} {r : Nat} {x : Int} (h : k.s = 1) (hr : k.r = (r : Int)) (hx : v[r]? = some x) : v.set r (max x k.q) = vup v k := by
  by_cases hlt : x < k.q
  · rw [← vup_gt h hr hx hlt, Int.max_eq_right (by omega)]
  · rw [← (vup_le h hr hx hlt).2, Int.max_eq_left (by omega)]
/-- A row of atoms lies in no block of a vector. -/
theorem ofs_keep {w w' : World} {A : Option Addr} {n cap g : Nat} {l : List Am} {v : List Int} (h : RowV w A n cap l) (ho : Only g w w') (hb : Blk w g 74 (vc v)) : RowV w' A n cap l :=
  ⟨h.ok, h.len, h.le, h.most, fun h0 => by
    obtain ⟨G, off, ha, hG, hr⟩ := h.at_ h0
    have hne : G ≠ g := by
      rintro rfl
      have h1 := hr 0 (by rw [h.len]; exact h0) 0 _ (by rw [Am.cells, List.getElem?_append_left (by rw [kcells_len (h.ok _ (List.getElem_mem _)).k.ml]; omega)]; exact kc0 _)
      rw [cell_of_row _ G _ _ 74 (0, 0) hb] at h1
      obtain ⟨hi, e⟩ := Array.getElem?_eq_some_iff.1 h1
      simp [vc] at e
    refine ⟨G, off, ha, Nat.lt_of_lt_of_le hG ho.size, fun i hi j v hv => ?_⟩
    have h1 := hr i hi j v hv
    unfold World.cell? at *
    rw [show w'.heap[(⟨G, off + i * 21 + j, none⟩ : Addr).block]? = w.heap[(⟨G, off + i * 21 + j, none⟩ : Addr).block]? from ho.block G hG hne]
    exact h1⟩
/-- What a round of Of finds and leaves. -/
def OM (g : Nat) (w0 : World) (v : List Int) (V : World) : Prop := Blk V g 74 (vc v) ∧ Only g w0 V
set_option maxRecDepth 100000 in
set_option maxHeartbeats 2000000 in
theorem vecOfs_is (A : Option Addr) (n cap : Nat) (a : List Am) (w : World) (h : RowV w A n cap a) (hn : n ≤ 600) : Calls Tryz.prog 35 #[.slice A n cap] w fun e w' => e = .returned (.agg (vc (vof (norm a))).toArray) ∧ Below w.heap.size w w' := by
  have hz := zero24
  have Q1 := Lib.hid ((blk_alloc w 74 (vc vz)).alloc (.cells (vc vz).toArray 74))
  have Q2 := Lib.hid (blk2 w (.cells (vc vz).toArray 74) 74 (vc vz))
  have B0 := Lib.hid (step_ (new_below w (.cells (vc vz).toArray 74)) (new_below _ (.cells (vc vz).toArray 74)))
  have H := Lib.hid h
  clear h
  refine (callsIn_wide (n := 10)).1 ?_
  refine callsIn_of_wp_marks Tryz.func35 rfl trivial ?_ rfl
  simp only [Tryz.ntmps35, List.size_toArray, List.length_cons, List.length_nil, Nat.reduceAdd, Nat.reduceSub, Array.replicate_succ, Array.replicate_zero, List.push_toArray, List.append_toArray, List.nil_append, List.cons_append]
  gi_wp2_with fail
  refine ⟨trivial, (callsIn_wide.2 (each_is A n cap a _ (H.out.below B0.out) hn)).mono ?_⟩
  rintro e w2 ⟨⟨Bs, D, m1, c1, rfl, lbs, k1, r1⟩, b1⟩
  have K1 := Lib.hid k1
  have R1 := Lib.hid r1
  have W1 := Lib.hid (Q1.out.below b1)
  have W2 := Lib.hid (Q2.out.below b1)
  have B1 := Lib.hid (step_ B0.out b1)
  have LBS := Lib.hid (show w.heap.size + 2 ≤ Bs by simpa using lbs)
  have hm1 : m1 ≤ 1000 := by have := norm_len a; rw [r1.len, H.out.len] at this; omega
  have ST := Lib.hid (norm_st H.out.ok)
  clear k1 r1 b1 lbs Q1 Q2 B0 H hz
  gi_wp2_with fail
  rename_i _ K0 hK0
  have LT := Lib.hid (show w.heap.size + 1 < w2.heap.size from W2.out.lt)
  obtain ⟨s, hs⟩ : ∃ s, norm a = s := ⟨_, rfl⟩
  rw [hs] at R1 ST
  have HS := Lib.hid hs
  clear hs
  refine range_row (gf := 63) (lb := #[.pointer (some ⟨Bs, 0, none⟩)]) rfl (fun _ _ => rfl) (each_seq Bs D m1 c1 s hm1) rfl
    (fun pre V => OM (w.heap.size + 1) w2 (vof pre) V)
    (fun V => False)
    (fun pre V V' h hb => ⟨h.1.below hb, h.2.trans (Only.of_below hb)⟩)
    (fun pre V o h => ⟨blk_put h.1 (by have := LT.out; omega), only_put h.2 (Nat.le_succ _)⟩)
    (fun V o h => h.elim)
    (fun pre V h => ⟨K1.out.only h.2 (by have := LBS.out; omega), by obtain ⟨h1, h2⟩ := h; exact ofs_keep R1.out h2 W2.out⟩)
    ⟨W2.out, Only.refl _ _⟩
    (fun pre x a' V => ∃ g4, a' = { tmps := #[.slice A n cap, undef, .pointer (some ⟨w.heap.size, 0, none⟩), .pointer (some ⟨w.heap.size + 1, 0, none⟩), .pointer (some ⟨g4, 0, none⟩), .slice A n cap, .func (.func 63) #[] #[.pointer (some ⟨Bs, 0, none⟩)], .agg x.k.cells.toArray, .agg x.v.cells.toArray, undef, undef, undef, undef, undef, undef, undef, undef, undef, undef, undef, undef, undef, undef], defers := [] } ∧ w2.heap.size + 1 < g4 ∧ Blk V g4 48 x.k.cells ∧ OM (w.heap.size + 1) w2 (vof pre) V)
    (fun pre x a' V o h => by
      obtain ⟨g4, e, l4, k4, h1, h2⟩ := h
      exact ⟨g4, e, l4, blk_put k4 (by omega), blk_put h1 (by have := LT.out; omega), only_put h2 (Nat.le_succ _)⟩)
    ?assign ?body ?done ?stop
  case assign =>
    intro l pre x rest W K hsx hi hlt hK
    have XO := Lib.hid (R1.out.ok x (by rw [hsx]; simp))
    have HI := Lib.hid hi
    have Z1 := Lib.hid (blk_alloc W 48 kzero.cells)
    have hk0 := zero27
    clear hi hsx
    simp only [encP, List.zip_toArray, List.zip_cons_cons, List.zip_nil_right, List.foldl_toArray', List.foldl_cons, List.foldl_nil, List.size_toArray, List.length_cons, List.length_nil, List.setIfInBounds_toArray, List.set_cons_zero, List.set_cons_succ]
    gi_wp2_with (first
      | (refine in_plain (wide_in l) rfl (by intro c h; cases h) ?_; refine wpList_store_ky rfl _ _ rfl W.heap.size kzero x.k rfl rfl Z1.out kzero_ok.ml XO.out.k.ml ?_; intro V1 N1 O1; refine in_done ?_))
    have QQ := box_below O1.out
    obtain ⟨h1, h2⟩ := HI.out
    exact hK _ _ (KeepL.below QQ hlt) ⟨_, rfl, hlt, N1.out, h1.below QQ, h2.trans (Only.of_below QQ)⟩
  case body =>
    intro l pre x rest a' W hsx hax hlt
    obtain ⟨g4, rfl, l4, k4, h1, h2⟩ := hax
    have XO := Lib.hid (R1.out.ok x (by rw [hsx]; simp))
    have XI := Lib.hid (show x ∈ s by rw [hsx]; simp)
    have SN := Lib.hid (vof_snoc pre x)
    have G4 := Lib.hid k4
    have H1 := Lib.hid h1
    have H2 := Lib.hid h2
    have HLT := Lib.hid hlt
    have c0 := k4.cell (kc0 x.k)
    clear k4 h1 h2 hsx hlt
    by_cases hs1 : x.k.s = 1
    · obtain ⟨hr, hr2⟩ := tag_rep ST.out XI.out hs1
      obtain ⟨r, hrr⟩ : ∃ r, x.k.r.toNat = r := ⟨_, rfl⟩
      rw [hrr] at hr hr2
      have hbs : (x.k.s == 1) = true := by rw [hs1]; rfl
      have c10 := G4.out.cell (kc10 (k := x.k) XO.out.k.ml)
      have c11 := G4.out.cell (kc11 (k := x.k) XO.out.k.ml)
      rw [hr2] at c10
      obtain ⟨y, hy⟩ : ∃ y, (vof pre)[r]? = some y := ⟨_, List.getElem?_eq_getElem (by rw [vof_len]; exact hr)⟩
      have cv := H1.out.cell (vc_at hy)
      have fv := H1.out.frozen r
      have RF := Lib.hid (vup_max hs1 hr2 hy)
      have HR2 := Lib.hid hr2
      clear hs1 hr2 hrr hy
      gi_wp2_with fail
      have S0 := Lib.hid (show Blk W.drew g4 48 x.k.cells from G4.out.drew)
      have cd : W.drew.cell? ⟨w.heap.size + 1, r, none⟩ = some (.int .u32 y) := cv
      have fd : W.drew.frozen? ⟨w.heap.size + 1, r, none⟩ = false := fv
      clear c0 c10 c11 cv fv
      refine region_in (wide_in l) (S := fun V => Blk V g4 48 x.k.cells) (by kernel_rfl) (by kernel_rfl) S0.out (fun _ => ?_)
      refine wpAnyH_take (i := 0) (oi := { dst := some 12, op := Go.Op.fieldAddr 48 (Go.Operand.tmp 4) 3, type := 0, pos := _, after := #[], guard := none }) (v := ?_) rfl (by kernel_rfl) (by kernel_rfl) (by kernel_rfl) (fun _ _ _ h => h) (Or.inl ⟨by rfl, ?_⟩) S0.out ?_
      rotate_left
      · intro W hW; (go_simp; try with_reducible rfl)
      try simp only [Act.put, List.setIfInBounds_toArray, List.set_cons_zero, List.set_cons_succ]
      refine wpAnyH_take (i := 1) (oi := { dst := some 13, op := Go.Op.load 5 (Go.Operand.tmp 12), type := 5, pos := _, after := #[{ on := 0, ground := Go.Ground.data }], guard := none }) (v := ?_) rfl (by kernel_rfl) (by kernel_rfl) (by kernel_rfl) (fun _ _ _ h => h) (Or.inl ⟨by rfl, ?_⟩) S0.out ?_
      rotate_left
      · intro W hW; have c := hW.cell (kc10 (k := x.k) XO.out.k.ml); rw [HR2.out] at c; (go_simp; try with_reducible rfl)
      try simp only [Act.put, List.setIfInBounds_toArray, List.set_cons_zero, List.set_cons_succ]
      refine wpAnyH_take (i := 2) (oi := { dst := some 14, op := Go.Op.fieldAddr 48 (Go.Operand.tmp 4) 3, type := 0, pos := _, after := #[], guard := none }) (v := ?_) rfl (by kernel_rfl) (by kernel_rfl) (by kernel_rfl) (fun _ _ _ h => h) (Or.inl ⟨by rfl, ?_⟩) S0.out ?_
      rotate_left
      · intro W hW; (go_simp; try with_reducible rfl)
      try simp only [Act.put, List.setIfInBounds_toArray, List.set_cons_zero, List.set_cons_succ]
      refine wpAnyH_take (i := 3) (oi := { dst := some 15, op := Go.Op.load 5 (Go.Operand.tmp 14), type := 5, pos := _, after := #[{ on := 2, ground := Go.Ground.data }], guard := none }) (v := ?_) rfl (by kernel_rfl) (by kernel_rfl) (by kernel_rfl) (fun _ _ _ h => h) (Or.inl ⟨by rfl, ?_⟩) S0.out ?_
      rotate_left
      · intro W hW; have c := hW.cell (kc10 (k := x.k) XO.out.k.ml); rw [HR2.out] at c; (go_simp; try with_reducible rfl)
      try simp only [Act.put, List.setIfInBounds_toArray, List.set_cons_zero, List.set_cons_succ]
      refine wpAnyH_take (i := 6) (oi := { dst := some 18, op := Go.Op.fieldAddr 48 (Go.Operand.tmp 4) 4, type := 0, pos := _, after := #[], guard := none }) (v := ?_) rfl (by kernel_rfl) (by kernel_rfl) (by kernel_rfl) (fun _ _ _ h => h) (Or.inl ⟨by rfl, ?_⟩) S0.out ?_
      rotate_left
      · intro W hW; (go_simp; try with_reducible rfl)
      try simp only [Act.put, List.setIfInBounds_toArray, List.set_cons_zero, List.set_cons_succ]
      refine wpAnyH_take (i := 7) (oi := { dst := some 19, op := Go.Op.load 37 (Go.Operand.tmp 18), type := 37, pos := _, after := #[{ on := 6, ground := Go.Ground.data }], guard := none }) (v := ?_) rfl (by kernel_rfl) (by kernel_rfl) (by kernel_rfl) (fun _ _ _ h => h) (Or.inl ⟨by rfl, ?_⟩) S0.out ?_
      rotate_left
      · intro W hW; have c := hW.cell (kc11 (k := x.k) XO.out.k.ml); (go_simp; try with_reducible rfl)
      try simp only [Act.put, List.setIfInBounds_toArray, List.set_cons_zero, List.set_cons_succ]
      refine wpAnyH_take (i := 4) (oi := { dst := some 16, op := Go.Op.indexAddr 74 (Go.Operand.tmp 3) (Go.Operand.tmp 15), type := 0, pos := _, after := #[{ on := 3, ground := Go.Ground.data }], guard := none }) (v := ?_) rfl (by kernel_rfl) (by kernel_rfl) (by kernel_rfl) (fun _ _ _ h => h) (Or.inl ⟨by rfl, ?_⟩) S0.out ?_
      rotate_left
      · intro W hW; (go_simp; rw [if_pos (by omega)]; try with_reducible rfl)
      try simp only [Act.put, List.setIfInBounds_toArray, List.set_cons_zero, List.set_cons_succ]
      refine wpAnyH_ready (rs := [5]) (by kernel_rfl) (by simp) ?_
      refine AllReadyH.cons (o := { dst := some 17, op := Go.Op.load 37 (Go.Operand.tmp 16), type := 37, pos := _, after := #[{ on := 4, ground := Go.Ground.data }], guard := none }) rfl (fun K hK => ?_) AllReadyH.nil
      go_simp
      go_wp2_with fail
      refine hK.out _ _ S0.out (fun _ => ?_)
      clear hK K
      try simp only [Act.put, List.setIfInBounds_toArray, List.set_cons_zero, List.set_cons_succ]
      refine wpAnyH_take (i := 8) (oi := { dst := some 20, op := Go.Op.call { callee := Go.Callee.builtin Go.Builtin.max, args := #[Go.Operand.tmp 17, Go.Operand.tmp 19], argTypes := #[37, 37] }, type := 37, pos := _, after := #[{ on := 5, ground := Go.Ground.data }, { on := 7, ground := Go.Ground.data }], guard := none }) (v := ?_) rfl (by kernel_rfl) (by kernel_rfl) (by kernel_rfl) (fun _ _ _ h => h) (Or.inl ⟨by rfl, ?_⟩) S0.out ?_
      rotate_left
      · intro W hW; (go_simp; try with_reducible rfl)
      try simp only [Act.put, List.setIfInBounds_toArray, List.set_cons_zero, List.set_cons_succ]
      refine wpAnyH_take (i := 9) (oi := { dst := some 21, op := Go.Op.indexAddr 74 (Go.Operand.tmp 3) (Go.Operand.tmp 13), type := 0, pos := _, after := #[{ on := 1, ground := Go.Ground.data }, { on := 0, ground := Go.Ground.phase }, { on := 1, ground := Go.Ground.phase }, { on := 2, ground := Go.Ground.phase }, { on := 3, ground := Go.Ground.phase }, { on := 4, ground := Go.Ground.phase }, { on := 5, ground := Go.Ground.phase }, { on := 6, ground := Go.Ground.phase }, { on := 7, ground := Go.Ground.phase }, { on := 8, ground := Go.Ground.phase }], guard := none }) (v := ?_) rfl (by kernel_rfl) (by kernel_rfl) (by kernel_rfl) (fun _ _ _ h => h) (Or.inl ⟨by rfl, ?_⟩) S0.out ?_
      rotate_left
      · intro W hW; (go_simp; rw [if_pos (by omega)]; try with_reducible rfl)
      try simp only [Act.put, List.setIfInBounds_toArray, List.set_cons_zero, List.set_cons_succ]
      refine wpAnyH_ready (rs := [10]) (by kernel_rfl) (by simp) ?_
      refine AllReadyH.cons (o := { dst := none, op := Go.Op.store 37 (Go.Operand.tmp 21) (Go.Operand.tmp 20), type := 0, pos := _, after := #[{ on := 9, ground := Go.Ground.data }, { on := 8, ground := Go.Ground.data }, { on := 0, ground := Go.Ground.phase }, { on := 1, ground := Go.Ground.phase }, { on := 2, ground := Go.Ground.phase }, { on := 3, ground := Go.Ground.phase }, { on := 4, ground := Go.Ground.phase }, { on := 5, ground := Go.Ground.phase }, { on := 6, ground := Go.Ground.phase }, { on := 7, ground := Go.Ground.phase }, { on := 8, ground := Go.Ground.phase }], guard := none }) rfl (fun K hK => ?_) AllReadyH.nil
      go_simp
      go_wp2_with fail
      refine hK.out _ _ (S0.out.other _ _ (by have := LT.out; omega)) (fun _ => ?_)
      clear hK K
      refine wpAnyH_done (by kernel_rfl) ?_ _
      refine ⟨rfl, ?_⟩
      exact ⟨KeepL.only ((Only.set (w.heap.size + 1) r W (.int .u32 (max y x.k.q))).drew) (by have := LT.out; omega) (by have := LT.out; omega) HLT.out, .inl ⟨rfl, by rw [SN.out, ← RF.out]; exact ⟨(bumpL H1.out).drew, (H2.out.trans (Only.set _ _ _ _)).drew⟩⟩⟩
    · have hbs : (x.k.s == 1) = false := by simp [hs1]
      have RF := Lib.hid (vup_no (v := vof pre) hs1)
      clear hs1
      gi_wp2_with fail
      exact ⟨KeepL.refl _ _, by rw [SN.out, RF.out]; exact ⟨H1.out, H2.out⟩⟩
  case done =>
    intro D W hD hi hd
    obtain ⟨h1, h2⟩ := hi
    have H1 := Lib.hid h1
    have H2 := Lib.hid h2
    have R0 := Lib.hid (W1.out.only h2 (by omega))
    have HD := Lib.hid hd
    have VL := Lib.hid (vof_len s)
    clear hd h1 h2
    show K0 _ _
    refine hK0 _ _ ?_
    gi_wp2_with (first
      | (refine in_plain wide_no rfl (by intro c h; cases h) ?_; refine wpList_load_v t24 rfl _ rfl (w.heap.size + 1) 0 (vof s) rfl H1.out.range VL.out ?_; refine in_done ?_)
      | (refine in_plain wide_no rfl (by intro c h; cases h) ?_; refine wpList_store_v t24 rfl _ _ rfl w.heap.size vz (vof s) rfl rfl R0.out rfl VL.out ?_; intro V3 N3 O3; refine in_done ?_))
    have B5 := Lib.hid (show Below w.heap.size w V3 from (B1.out.trans (H2.out.below (by omega) (by have := LT.out; omega))).trans (O3.out.below (Nat.le_refl _) (Nat.le_trans (Nat.le_of_lt (Nat.lt_of_succ_lt LT.out)) H2.out.size)))
    refine marks_ret D rfl ((O3.out.block D (Array.getElem?_eq_some_iff.1 HD.out).1 (by have := LT.out; omega)).trans HD.out) (results_v t24 rfl _ _ w.heap.size (vof s) rfl (blk_put N3.out (by have := LT.out; omega)) VL.out) ?_
    exact ⟨by rw [HS.out], below_put B5.out (by have := LT.out; omega)⟩
  case stop =>
    intro D W hD hx hd
    exact hx.elim
end Go.Proofs.YtdigbipfchgjmaaGreat
namespace Go.Proofs.YtdigbipfchgjmaaGreat
open Go.RowKit

theorem refofs_keep {w w' : World} {A : Option Addr} {n cap g : Nat} {l : List Am} {v : List Int} (h : RowV w A n cap l) (ho : Only g w w') (hb : Blk w g 73 (vc v)) : RowV w' A n cap l :=
  ⟨h.ok, h.len, h.le, h.most, fun h0 => by
    obtain ⟨G, off, ha, hG, hr⟩ := h.at_ h0
    have hne : G ≠ g := by
      rintro rfl
      have h1 := hr 0 (by rw [h.len]; exact h0) 0 _ (by rw [Am.cells, List.getElem?_append_left (by rw [kcells_len (h.ok _ (List.getElem_mem _)).k.ml]; omega)]; exact kc0 _)
      rw [cell_of_row _ G _ _ 73 (0, 0) hb] at h1
      obtain ⟨hi, e⟩ := Array.getElem?_eq_some_iff.1 h1
      simp [vc] at e
    refine ⟨G, off, ha, Nat.lt_of_lt_of_le hG ho.size, fun i hi j v hv => ?_⟩
    have h1 := hr i hi j v hv
    unfold World.cell? at *
    rw [show w'.heap[(⟨G, off + i * 21 + j, none⟩ : Addr).block]? = w.heap[(⟨G, off + i * 21 + j, none⟩ : Addr).block]? from ho.block G hG hne]
    exact h1⟩
theorem only_drewN {g : Nat} {a w : World} (h : Only g a w) : ∀ n, Only g a (w.drewN n)
  | 0 => h
  | n + 1 => (only_drewN h n).drew
set_option maxRecDepth 100000 in
set_option maxHeartbeats 2000000 in
theorem refOfs_is (A : Option Addr) (n cap : Nat) (a : List Am) (w : World) (h : RowV w A n cap a) (hn : n ≤ 600) : Calls Tryz.prog 36 #[.slice A n cap] w fun e w' => e = .returned (.agg (vc (vof (norm a))).toArray) ∧ Below w.heap.size w w' := by
  have hz := zero23v
  have hk0 := zero27
  have Q1 := Lib.hid (blk_alloc w 73 (vc vz))
  have B0 := Lib.hid (new_below w (.cells (vc vz).toArray 73))
  have H := Lib.hid h
  clear h
  go_enter Tryz.func36, Tryz.ntmps36
  go_wp2_with fail
  refine (refNorm_is A n cap a _ (H.out.below B0.out) (by omega)).mono ?_
  rintro e w1 ⟨⟨D, m, c, rfl, r1⟩, b1⟩
  have R1 := Lib.hid (r1.below (new_below w1 (.cells (vc vz).toArray 73)))
  have W1 := Lib.hid ((Q1.out.below b1).alloc (.cells (vc vz).toArray 73))
  have W2 := Lib.hid (blk_alloc w1 73 (vc vz))
  have B1 := Lib.hid (step_ (step_ B0.out b1) (new_below w1 (.cells (vc vz).toArray 73)))
  have LT := Lib.hid (show w.heap.size < w1.heap.size from (Q1.out.below b1).lt)
  have hm : m ≤ 1000 := by have := norm_len a; rw [r1.len, H.out.len] at this; omega
  have ST := Lib.hid (norm_st H.out.ok)
  clear r1 b1 Q1 B0 H
  obtain ⟨s, hs⟩ : ∃ s, norm a = s := ⟨_, rfl⟩
  rw [hs] at R1 ST
  have HS := Lib.hid hs
  clear hs
  go_wp2_with fail
  clear hz
  go_loopw [4] (fun i wr => ∃ j : Nat, j ≤ m ∧ i = .int .i64 j ∧ Blk wr w1.heap.size 73 (vc (vof (s.take j))) ∧ Only w1.heap.size (w1.alloc (.cells (vc vz).toArray 73)) wr) (fun i _ => m - (intOf i).toNat)
  case atStart => exact ⟨0, Nat.zero_le _, rfl, W2.out, Only.refl _ _⟩
  case round =>
    obtain ⟨j, hj, rfl, hv, ho⟩ := hrel
    have V := Lib.hid hv
    have OO := Lib.hid ho
    have RR := Lib.hid (refofs_keep R1.out ho W2.out)
    clear hv ho
    by_cases hlt : j < m
    · obtain ⟨G, p, hE⟩ := RR.out.elem j hlt
      have E := Lib.hid hE
      have T := Lib.hid (take_getD (l := s) (j := j) (by have := RR.out.len; omega))
      have XI := Lib.hid (show s.getD j azero ∈ s by have := RR.out.len; rw [List.getD_eq_getElem?_getD, List.getElem?_eq_getElem (by omega)]; exact List.getElem_mem _)
      obtain ⟨x, hx⟩ : ∃ x, s.getD j azero = x := ⟨_, rfl⟩
      rw [hx] at E T XI
      clear hE hx
      have XO := Lib.hid E.out.ok
      have SN := Lib.hid (show vof (s.take (j + 1)) = vup (vof (s.take j)) x.k by rw [T.out, vof_snoc])
      have Z1 := Lib.hid (blk_alloc wr 48 kzero.cells)
      have GS := Lib.hid (show w1.heap.size < wr.heap.size from V.out.lt)
      go_wp2_with (first
        | (refine wpList_index rfl _ _ rfl D m c G p j x _ rfl rfl (by first | rfl | omega) E.out ?_)
        | (refine wpList_load_ky rfl _ rfl G p x.k rfl (range_ak E.out.rg) XO.out.k.ml ?_)
        | (refine wpList_store_ky rfl _ _ rfl wr.heap.size kzero x.k rfl rfl Z1.out kzero_ok.ml XO.out.k.ml ?_; intro w2 N2 O2))
      have QQ := Lib.hid (box_below O2.out)
      have V2 := Lib.hid (V.out.below QQ.out)
      have OO2 := Lib.hid (OO.out.trans (Only.of_below QQ.out))
      have c0 := N2.out.cell (kc0 x.k)
      have N2' := Lib.hid N2.out
      clear N2 O2 V OO RR E Z1 QQ T
      by_cases hs1 : x.k.s = 1
      · obtain ⟨hr, hr2⟩ := tag_rep ST.out XI.out hs1
        obtain ⟨r, hrr⟩ : ∃ r, x.k.r.toNat = r := ⟨_, rfl⟩
        rw [hrr] at hr hr2
        have hbs : (x.k.s == 1) = true := by rw [hs1]; rfl
        have c10 := N2'.out.cell (kc10 (k := x.k) XO.out.k.ml)
        have c11 := N2'.out.cell (kc11 (k := x.k) XO.out.k.ml)
        rw [hr2] at c10
        have hri : (r : Int) < 16 := by omega
        obtain ⟨y, hy⟩ : ∃ y, (vof (s.take j))[r]? = some y := ⟨_, List.getElem?_eq_getElem (by rw [vof_len]; exact hr)⟩
        have cv := V2.out.cell (vc_at hy)
        have fv := V2.out.frozen r
        by_cases hlt2 : y < x.k.q
        · have RF := Lib.hid (vup_gt hs1 hr2 hy hlt2)
          have hlt3 : decide (y < x.k.q) = true := by simp [hlt2]
          clear hs1 hr2 hrr hy
          go_wp2_with fail
          go_quiet (fail)
          go_wp2_with fail
          go_roundw
          case rel => exact ⟨j + 1, by omega, by go_num, by rw [SN.out, ← RF.out]; exact bumpL V2.out, (only_drewN OO2.out _).trans (Only.set _ _ _ _)⟩
          case measure => simp [intOf]; omega
        · have RF := Lib.hid (vup_le hs1 hr2 hy hlt2).1
          have hlt3 : decide (y < x.k.q) = false := by simp [hlt2]
          clear hs1 hr2 hrr hy
          go_wp2_with fail
          go_quiet (fail)
          go_wp2_with fail
          go_roundw
          case rel => exact ⟨j + 1, by omega, by go_num, by rw [SN.out, ← RF.out]; exact V2.out, only_drewN OO2.out _⟩
          case measure => simp [intOf]; omega
      · have hbs : (x.k.s == 1) = false := by simp [hs1]
        have RF := Lib.hid (vup_no (v := vof (s.take j)) hs1)
        clear hs1
        go_wp2_with fail
        go_quiet (fail)
        go_wp2_with fail
        go_roundw
        case rel => exact ⟨j + 1, by omega, by go_num, by rw [SN.out, RF.out]; exact V2.out, only_drewN OO2.out _⟩
        case measure => simp [intOf]; omega
    · obtain rfl : m = j := by omega
      have TK := Lib.hid (show s.take m = s from List.take_of_length_le (by have := RR.out.len; omega))
      rw [TK.out] at V
      have VL := Lib.hid (vof_len s)
      have R0 := Lib.hid (W1.out.only OO.out (by have := LT.out; omega))
      go_wp2_with (first
        | refine wpList_load_v t23 rfl _ rfl w1.heap.size 0 (vof s) rfl V.out.range VL.out ?_
        | (refine wpList_store_v t23 rfl _ _ rfl w.heap.size vz (vof s) rfl rfl R0.out rfl VL.out ?_; intro w5 hw5 ho5))
      refine bodyPost_ret (results_v t23 rfl _ _ w.heap.size (vof s) rfl hw5.out VL.out) rfl ?_
      have B5 := B1.out.trans (OO.out.below (Nat.le_of_lt LT.out) B1.out.size)
      exact ⟨by rw [HS.out], B5.trans (ho5.out.below (Nat.le_refl _) B5.size)⟩
end Go.Proofs.YtdigbipfchgjmaaGreat
