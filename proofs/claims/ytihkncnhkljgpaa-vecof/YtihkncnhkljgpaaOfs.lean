/- The contracts of Of of package vec and of the reference. -/
import Derived.Test.YtihkncnhkljgpaaBump
import Derived.Test.YtihkncnhkljgpaaLeq
namespace Go.Proofs.Ytihkncnhkljgpaa
open Go.RowKit Go.Shelf
attribute [local go_sem] Oper.semAt_some

theorem vup_no {v : List Int} {k : Ky} (h : k.s ≠ 1) : vup v k = v := by unfold vup; rw [if_neg h]
theorem vup_gt {v : List Int} {k : Ky} {r : Nat} {x : Int} (h : k.s = 1) (hr : k.r = (r : Int)) (hx : v[r]? = some x) (hlt : x < k.q) : v.set r k.q = vup v k := by
  unfold vup
  rw [if_pos h, hr, Int.toNat_natCast, List.getD_eq_getElem?_getD, hx, Option.getD_some]
  unfold mx; rw [if_pos hlt]
theorem vup_le {v : List Int} {k : Ky} {r : Nat} {x : Int} (h : k.s = 1) (hr : k.r = (r : Int)) (hx : v[r]? = some x) (hlt : ¬ x < k.q) : v = vup v k ∧ v.set r x = vup v k := by
  have e : v.set r x = v := by
    apply List.ext_getElem?
    intro i
    by_cases hi : i = r
    · subst hi; rw [List.getElem?_set_self (List.getElem?_eq_some_iff.1 hx).1, hx]
    · rw [List.getElem?_set_ne (by omega)]
  have e2 : v.set r x = vup v k := by
    unfold vup
    rw [if_pos h, hr, Int.toNat_natCast, List.getD_eq_getElem?_getD, hx, Option.getD_some]
    unfold mx; rw [if_neg hlt]
  exact ⟨by rw [← e2, e], e2⟩
theorem vup_max {v : List Int} {k : Ky} {r : Nat} {x : Int} (h : k.s = 1) (hr : k.r = (r : Int)) (hx : v[r]? = some x) : v.set r (max x k.q) = vup v k := by
  by_cases hlt : x < k.q
  · rw [← vup_gt h hr hx hlt, Int.max_eq_right (by omega)]
  · rw [← (vup_le h hr hx hlt).2, Int.max_eq_left (by omega)]
/-- A row of atoms lies in no block of a vector. -/
theorem ofs_keep {w w' : World} {A : Option Addr} {n cap g : Nat} {l : List Am} {v : List Int} (h : RowV w A n cap l) (ho : Only g w w') (hb : Blk w g 24 (vc v)) : RowV w' A n cap l :=
  ⟨h.ok, h.len, h.le, h.most, fun h0 => by
    obtain ⟨G, off, ha, hG, hr⟩ := h.at_ h0
    have hne : G ≠ g := by
      rintro rfl
      have h1 := hr 0 (by rw [h.len]; exact h0) 0 _ (by rw [Am.cells, List.getElem?_append_left (by rw [kcells_len (h.ok _ (List.getElem_mem _)).k.ml]; omega)]; exact kc0 _)
      rw [cell_of_row _ G _ _ 24 (0, 0) hb] at h1
      obtain ⟨hi, e⟩ := Array.getElem?_eq_some_iff.1 h1
      simp [vc] at e
    refine ⟨G, off, ha, Nat.lt_of_lt_of_le hG ho.size, fun i hi j v hv => ?_⟩
    have h1 := hr i hi j v hv
    unfold World.cell? at *
    rw [show w'.heap[(⟨G, off + i * 21 + j, none⟩ : Addr).block]? = w.heap[(⟨G, off + i * 21 + j, none⟩ : Addr).block]? from ho.block G hG hne]
    exact h1⟩
/-- What a round of Of finds and leaves. -/
def OM (g : Nat) (w0 : World) (v : List Int) (V : World) : Prop := Blk V g 24 (vc v) ∧ Only g w0 V
set_option maxRecDepth 100000 in
set_option maxHeartbeats 2000000 in
theorem vecOfs_is (A : Option Addr) (n cap : Nat) (a : List Am) (w : World) (h : RowV w A n cap a) (hn : n ≤ 600) : Calls Try.prog 17 #[.slice A n cap] w fun e w' => e = .returned (.agg (vc (vof (norm a))).toArray) ∧ Below w.heap.size w w' := by
  have hz := zero24
  have Q1 := Lib.hid ((blk_alloc w 24 (vc vz)).alloc (.cells (vc vz).toArray 24))
  have Q2 := Lib.hid (blk2 w (.cells (vc vz).toArray 24) 24 (vc vz))
  have B0 := Lib.hid (step_ (new_below w (.cells (vc vz).toArray 24)) (new_below _ (.cells (vc vz).toArray 24)))
  have H := Lib.hid h
  clear h
  refine (callsIn_wide (n := 10)).1 ?_
  refine callsIn_of_wp_marks Try.func17 rfl trivial ?_ rfl
  simp only [Try.ntmps17, List.size_toArray, List.length_cons, List.length_nil, Nat.reduceAdd, Nat.reduceSub, Array.replicate_succ, Array.replicate_zero, List.push_toArray, List.append_toArray, List.nil_append, List.cons_append]
  gi_wp2_with fail
  refine ⟨trivial, (callsIn_wide.2 (each_is A n cap a _ (H.out.below B0.out) hn)).mono ?_⟩
  rintro e w2 ⟨⟨Bs, D, m1, c1, rfl, lbs, k1, r1⟩, b1⟩
  have K1 := Lib.hid k1
  have R1 := Lib.hid r1
  have W1 := Lib.hid (Q1.out.below b1)
  have W2 := Lib.hid (Q2.out.below b1)
  have B1 := Lib.hid (step_ B0.out b1)
  have LBS := Lib.hid (show w.heap.size + 2 ≤ Bs by simpa using lbs)
  have hm1 : m1 ≤ 1000 := by have := norm_len a; rw [r1.len, H.out.len] at this; omega
  have ST := Lib.hid (norm_st H.out.ok)
  clear k1 r1 b1 lbs Q1 Q2 B0 H hz
  gi_wp2_with fail
  rename_i _ K0 hK0
  have LT := Lib.hid (show w.heap.size + 1 < w2.heap.size from W2.out.lt)
  obtain ⟨s, hs⟩ : ∃ s, norm a = s := ⟨_, rfl⟩
  rw [hs] at R1 ST
  have HS := Lib.hid hs
  clear hs
  refine range_row (gf := 36) (lb := #[.pointer (some ⟨Bs, 0, none⟩)]) rfl (fun _ _ => rfl) (each_seq Bs D m1 c1 s hm1) rfl
    (fun pre V => OM (w.heap.size + 1) w2 (vof pre) V)
    (fun V => False)
    (fun pre V V' h hb => ⟨h.1.below hb, h.2.trans (Only.of_below hb)⟩)
    (fun pre V o h => ⟨blk_put h.1 (by have := LT.out; omega), only_put h.2 (Nat.le_succ _)⟩)
    (fun V o h => h.elim)
    (fun pre V h => ⟨K1.out.only h.2 (by have := LBS.out; omega), by obtain ⟨h1, h2⟩ := h; exact ofs_keep R1.out h2 W2.out⟩)
    ⟨W2.out, Only.refl _ _⟩
    (fun pre x a' V => ∃ g4, a' = { tmps := #[.slice A n cap, undef, .pointer (some ⟨w.heap.size, 0, none⟩), .pointer (some ⟨w.heap.size + 1, 0, none⟩), .pointer (some ⟨g4, 0, none⟩), .slice A n cap, .func (.func 36) #[] #[.pointer (some ⟨Bs, 0, none⟩)], .agg x.k.cells.toArray, .agg x.v.cells.toArray, undef, undef, undef, undef, undef, undef, undef, undef, undef, undef, undef, undef, undef, undef], defers := [] } ∧ w2.heap.size + 1 < g4 ∧ Blk V g4 61 x.k.cells ∧ OM (w.heap.size + 1) w2 (vof pre) V)
    (fun pre x a' V o h => by
      obtain ⟨g4, e, l4, k4, h1, h2⟩ := h
      exact ⟨g4, e, l4, blk_put k4 (by omega), blk_put h1 (by have := LT.out; omega), only_put h2 (Nat.le_succ _)⟩)
    ?assign ?body ?done ?stop
  case assign =>
    intro l pre x rest W K hsx hi hlt hK
    have XO := Lib.hid (R1.out.ok x (by rw [hsx]; simp))
    have HI := Lib.hid hi
    have Z1 := Lib.hid (blk_alloc W 61 kzero.cells)
    have hk0 := zero27
    clear hi hsx
    simp only [encP, List.zip_toArray, List.zip_cons_cons, List.zip_nil_right, List.foldl_toArray', List.foldl_cons, List.foldl_nil, List.size_toArray, List.length_cons, List.length_nil, List.setIfInBounds_toArray, List.set_cons_zero, List.set_cons_succ]
    gi_wp2_with (first
      | (refine in_plain (wide_in l) rfl (by intro c h; cases h) ?_; refine wpList_store_ky rfl _ _ rfl W.heap.size kzero x.k rfl rfl Z1.out kzero_ok.ml XO.out.k.ml ?_; intro V1 N1 O1; refine in_done ?_))
    have QQ := box_below O1.out
    obtain ⟨h1, h2⟩ := HI.out
    exact hK _ _ (KeepL.below QQ hlt) ⟨_, rfl, hlt, N1.out, h1.below QQ, h2.trans (Only.of_below QQ)⟩
  case body =>
    intro l pre x rest a' W hsx hax hlt
    obtain ⟨g4, rfl, l4, k4, h1, h2⟩ := hax
    have XO := Lib.hid (R1.out.ok x (by rw [hsx]; simp))
    have XI := Lib.hid (show x ∈ s by rw [hsx]; simp)
    have SN := Lib.hid (vof_snoc pre x)
    have G4 := Lib.hid k4
    have H1 := Lib.hid h1
    have H2 := Lib.hid h2
    have HLT := Lib.hid hlt
    have c0 := k4.cell (kc0 x.k)
    clear k4 h1 h2 hsx hlt
    by_cases hs1 : x.k.s = 1
    · obtain ⟨hr, hr2⟩ := tag_rep ST.out XI.out hs1
      obtain ⟨r, hrr⟩ : ∃ r, x.k.r.toNat = r := ⟨_, rfl⟩
      rw [hrr] at hr hr2
      have hbs : (x.k.s == 1) = true := by rw [hs1]; rfl
      have c10 := G4.out.cell (kc10 (k := x.k) XO.out.k.ml)
      have c11 := G4.out.cell (kc11 (k := x.k) XO.out.k.ml)
      rw [hr2] at c10
      obtain ⟨y, hy⟩ : ∃ y, (vof pre)[r]? = some y := ⟨_, List.getElem?_eq_getElem (by rw [vof_len]; exact hr)⟩
      have cv := H1.out.cell (vc_at hy)
      have fv := H1.out.frozen r
      have RF := Lib.hid (vup_max hs1 hr2 hy)
      have HR2 := Lib.hid hr2
      clear hs1 hr2 hrr hy
      gi_wp2_with fail
      have S0 := Lib.hid (show Blk W.drew g4 61 x.k.cells from G4.out.drew)
      have cd : W.drew.cell? ⟨w.heap.size + 1, r, none⟩ = some (.int .u32 y) := cv
      have fd : W.drew.frozen? ⟨w.heap.size + 1, r, none⟩ = false := fv
      clear c0 c10 c11 cv fv
      refine region_in (wide_in l) (S := fun V => Blk V g4 61 x.k.cells) (by kernel_rfl) (by kernel_rfl) S0.out (fun _ => ?_)
      refine wpAnyH_take (i := 0) (oi := { dst := some 12, op := Go.Op.fieldAddr 61 (Go.Operand.tmp 4) 3, type := 0, pos := _, after := #[], guard := none }) (v := ?_) rfl (by kernel_rfl) (by kernel_rfl) (by kernel_rfl) (fun _ _ _ h => h) (Or.inl ⟨by rfl, ?_⟩) S0.out ?_
      rotate_left
      · intro W hW; (go_simp; try with_reducible rfl)
      try simp only [Act.put, List.setIfInBounds_toArray, List.set_cons_zero, List.set_cons_succ]
      refine wpAnyH_take (i := 1) (oi := { dst := some 13, op := Go.Op.load 5 (Go.Operand.tmp 12), type := 5, pos := _, after := #[{ on := 0, ground := Go.Ground.data }], guard := none }) (v := ?_) rfl (by kernel_rfl) (by kernel_rfl) (by kernel_rfl) (fun _ _ _ h => h) (Or.inl ⟨by rfl, ?_⟩) S0.out ?_
      rotate_left
      · intro W hW; have c := hW.cell (kc10 (k := x.k) XO.out.k.ml); rw [HR2.out] at c; (go_simp; try with_reducible rfl)
      try simp only [Act.put, List.setIfInBounds_toArray, List.set_cons_zero, List.set_cons_succ]
      refine wpAnyH_take (i := 2) (oi := { dst := some 14, op := Go.Op.fieldAddr 61 (Go.Operand.tmp 4) 3, type := 0, pos := _, after := #[], guard := none }) (v := ?_) rfl (by kernel_rfl) (by kernel_rfl) (by kernel_rfl) (fun _ _ _ h => h) (Or.inl ⟨by rfl, ?_⟩) S0.out ?_
      rotate_left
      · intro W hW; (go_simp; try with_reducible rfl)
      try simp only [Act.put, List.setIfInBounds_toArray, List.set_cons_zero, List.set_cons_succ]
      refine wpAnyH_take (i := 3) (oi := { dst := some 15, op := Go.Op.load 5 (Go.Operand.tmp 14), type := 5, pos := _, after := #[{ on := 2, ground := Go.Ground.data }], guard := none }) (v := ?_) rfl (by kernel_rfl) (by kernel_rfl) (by kernel_rfl) (fun _ _ _ h => h) (Or.inl ⟨by rfl, ?_⟩) S0.out ?_
      rotate_left
      · intro W hW; have c := hW.cell (kc10 (k := x.k) XO.out.k.ml); rw [HR2.out] at c; (go_simp; try with_reducible rfl)
      try simp only [Act.put, List.setIfInBounds_toArray, List.set_cons_zero, List.set_cons_succ]
      refine wpAnyH_take (i := 6) (oi := { dst := some 18, op := Go.Op.fieldAddr 61 (Go.Operand.tmp 4) 4, type := 0, pos := _, after := #[], guard := none }) (v := ?_) rfl (by kernel_rfl) (by kernel_rfl) (by kernel_rfl) (fun _ _ _ h => h) (Or.inl ⟨by rfl, ?_⟩) S0.out ?_
      rotate_left
      · intro W hW; (go_simp; try with_reducible rfl)
      try simp only [Act.put, List.setIfInBounds_toArray, List.set_cons_zero, List.set_cons_succ]
      refine wpAnyH_take (i := 7) (oi := { dst := some 19, op := Go.Op.load 22 (Go.Operand.tmp 18), type := 22, pos := _, after := #[{ on := 6, ground := Go.Ground.data }], guard := none }) (v := ?_) rfl (by kernel_rfl) (by kernel_rfl) (by kernel_rfl) (fun _ _ _ h => h) (Or.inl ⟨by rfl, ?_⟩) S0.out ?_
      rotate_left
      · intro W hW; have c := hW.cell (kc11 (k := x.k) XO.out.k.ml); (go_simp; try with_reducible rfl)
      try simp only [Act.put, List.setIfInBounds_toArray, List.set_cons_zero, List.set_cons_succ]
      refine wpAnyH_take (i := 4) (oi := { dst := some 16, op := Go.Op.indexAddr 24 (Go.Operand.tmp 3) (Go.Operand.tmp 15), type := 0, pos := _, after := #[{ on := 3, ground := Go.Ground.data }], guard := none }) (v := ?_) rfl (by kernel_rfl) (by kernel_rfl) (by kernel_rfl) (fun _ _ _ h => h) (Or.inl ⟨by rfl, ?_⟩) S0.out ?_
      rotate_left
      · intro W hW; (go_simp; rw [if_pos (by omega)]; try with_reducible rfl)
      try simp only [Act.put, List.setIfInBounds_toArray, List.set_cons_zero, List.set_cons_succ]
      refine wpAnyH_ready (rs := [5]) (by kernel_rfl) (by simp) ?_
      refine AllReadyH.cons (o := { dst := some 17, op := Go.Op.load 22 (Go.Operand.tmp 16), type := 22, pos := _, after := #[{ on := 4, ground := Go.Ground.data }], guard := none }) rfl (fun K hK => ?_) AllReadyH.nil
      go_simp
      go_wp2_with fail
      refine hK.out _ _ S0.out (fun _ => ?_)
      clear hK K
      try simp only [Act.put, List.setIfInBounds_toArray, List.set_cons_zero, List.set_cons_succ]
      refine wpAnyH_take (i := 8) (oi := { dst := some 20, op := Go.Op.call { callee := Go.Callee.builtin Go.Builtin.max, args := #[Go.Operand.tmp 17, Go.Operand.tmp 19], argTypes := #[22, 22] }, type := 22, pos := _, after := #[{ on := 5, ground := Go.Ground.data }, { on := 7, ground := Go.Ground.data }], guard := none }) (v := ?_) rfl (by kernel_rfl) (by kernel_rfl) (by kernel_rfl) (fun _ _ _ h => h) (Or.inl ⟨by rfl, ?_⟩) S0.out ?_
      rotate_left
      · intro W hW; (go_simp; try with_reducible rfl)
      try simp only [Act.put, List.setIfInBounds_toArray, List.set_cons_zero, List.set_cons_succ]
      refine wpAnyH_take (i := 9) (oi := { dst := some 21, op := Go.Op.indexAddr 24 (Go.Operand.tmp 3) (Go.Operand.tmp 13), type := 0, pos := _, after := #[{ on := 1, ground := Go.Ground.data }, { on := 0, ground := Go.Ground.phase }, { on := 1, ground := Go.Ground.phase }, { on := 2, ground := Go.Ground.phase }, { on := 3, ground := Go.Ground.phase }, { on := 4, ground := Go.Ground.phase }, { on := 5, ground := Go.Ground.phase }, { on := 6, ground := Go.Ground.phase }, { on := 7, ground := Go.Ground.phase }, { on := 8, ground := Go.Ground.phase }], guard := none }) (v := ?_) rfl (by kernel_rfl) (by kernel_rfl) (by kernel_rfl) (fun _ _ _ h => h) (Or.inl ⟨by rfl, ?_⟩) S0.out ?_
      rotate_left
      · intro W hW; (go_simp; rw [if_pos (by omega)]; try with_reducible rfl)
      try simp only [Act.put, List.setIfInBounds_toArray, List.set_cons_zero, List.set_cons_succ]
      refine wpAnyH_ready (rs := [10]) (by kernel_rfl) (by simp) ?_
      refine AllReadyH.cons (o := { dst := none, op := Go.Op.store 22 (Go.Operand.tmp 21) (Go.Operand.tmp 20), type := 0, pos := _, after := #[{ on := 9, ground := Go.Ground.data }, { on := 8, ground := Go.Ground.data }, { on := 0, ground := Go.Ground.phase }, { on := 1, ground := Go.Ground.phase }, { on := 2, ground := Go.Ground.phase }, { on := 3, ground := Go.Ground.phase }, { on := 4, ground := Go.Ground.phase }, { on := 5, ground := Go.Ground.phase }, { on := 6, ground := Go.Ground.phase }, { on := 7, ground := Go.Ground.phase }, { on := 8, ground := Go.Ground.phase }], guard := none }) rfl (fun K hK => ?_) AllReadyH.nil
      go_simp
      go_wp2_with fail
      refine hK.out _ _ (S0.out.other _ _ (by have := LT.out; omega)) (fun _ => ?_)
      clear hK K
      refine wpAnyH_done (by kernel_rfl) ?_ _
      refine ⟨rfl, ?_⟩
      exact ⟨KeepL.only ((Only.set (w.heap.size + 1) r W (.int .u32 (max y x.k.q))).drew) (by have := LT.out; omega) (by have := LT.out; omega) HLT.out, .inl ⟨rfl, by rw [SN.out, ← RF.out]; exact ⟨(bumpL H1.out).drew, (H2.out.trans (Only.set _ _ _ _)).drew⟩⟩⟩
    · have hbs : (x.k.s == 1) = false := by simp [hs1]
      have RF := Lib.hid (vup_no (v := vof pre) hs1)
      clear hs1
      gi_wp2_with fail
      exact ⟨KeepL.refl _ _, by rw [SN.out, RF.out]; exact ⟨H1.out, H2.out⟩⟩
  case done =>
    intro D W hD hi hd
    obtain ⟨h1, h2⟩ := hi
    have H1 := Lib.hid h1
    have H2 := Lib.hid h2
    have R0 := Lib.hid (W1.out.only h2 (by omega))
    have HD := Lib.hid hd
    have VL := Lib.hid (vof_len s)
    clear hd h1 h2
    show K0 _ _
    refine hK0 _ _ ?_
    gi_wp2_with (first
      | (refine in_plain wide_no rfl (by intro c h; cases h) ?_; refine wpList_load_v t24 rfl _ rfl (w.heap.size + 1) 0 (vof s) rfl H1.out.range VL.out ?_; refine in_done ?_)
      | (refine in_plain wide_no rfl (by intro c h; cases h) ?_; refine wpList_store_v t24 rfl _ _ rfl w.heap.size vz (vof s) rfl rfl R0.out rfl VL.out ?_; intro V3 N3 O3; refine in_done ?_))
    have B5 := Lib.hid (show Below w.heap.size w V3 from (B1.out.trans (H2.out.below (by omega) (by have := LT.out; omega))).trans (O3.out.below (Nat.le_refl _) (Nat.le_trans (Nat.le_of_lt (Nat.lt_of_succ_lt LT.out)) H2.out.size)))
    refine marks_ret D rfl ((O3.out.block D (Array.getElem?_eq_some_iff.1 HD.out).1 (by have := LT.out; omega)).trans HD.out) (results_v t24 rfl _ _ w.heap.size (vof s) rfl (blk_put N3.out (by have := LT.out; omega)) VL.out) ?_
    exact ⟨by rw [HS.out], below_put B5.out (by have := LT.out; omega)⟩
  case stop =>
    intro D W hD hx hd
    exact hx.elim
end Go.Proofs.Ytihkncnhkljgpaa
