/- The contract of Find of package lat. -/
import Derived.Test.YtkphpicfgpgkkaaNorms
import Derived.Test.YtkphpicfgpgkkaaOnly
namespace Go.Proofs.Ytkphpicfgpgkkaa
open Go.RowKit

structure FS (w : World) (k : Ky) (W : World) : Prop where
  bel : Below w.heap.size w W
  key : Blk W w.heap.size 28 k.cells
  res : Blk W (w.heap.size + 1) 32 vzero.cells
theorem FS.below {w : World} {k : Ky} {W W' : World} (h : FS w k W) (hb : Below W.heap.size W W') : FS w k W' := ⟨step_ h.bel hb, h.key.below hb, h.res.below hb⟩
theorem FS.only {w : World} {k : Ky} {W W' : World} {g : Nat} (h : FS w k W) (hb : Only g W W') (hg : w.heap.size + 1 < g) : FS w k W' := ⟨h.bel.trans (hb.below (by omega) h.bel.size), h.key.only hb (by omega), h.res.only hb (by omega)⟩
theorem ready_alloc32 {ops : Array Oper} {Q : Exit → Act → World → Prop} {md : Region.Mode} {S : World → Prop} {fuel : Nat} {listed : Array Bool} {a : Act} {w : World} {i : Nat} {o : Oper} {rs : List Nat} (ho : ops[i]? = some o) (hg : o.guard = none) (hop : o.op = .alloc 32)
    (h : ∀ g w', g = w.heap.size → Blk w' g 32 vzero.cells → Below w.heap.size w w' → S w' ∧ wpAnyH Try.prog md ops Q S fuel (listed.setIfInBounds i true) (a.put o.dst (.pointer (some ⟨g, 0, none⟩))) w')
    (hs : AllReadyH Try.prog md ops Q S fuel listed a w rs) : AllReadyH Try.prog md ops Q S fuel listed a w (i :: rs) := by
  refine AllReadyH.cons ho (fun K hK => ?_) hs
  have hw : Region.wanted o (yielded ops a.tmps) = true := by simp [Region.wanted, hg]
  rw [if_pos hw]
  have hz := zero30
  have H := h w.heap.size (w.alloc (.cells vzero.cells.toArray 32)) rfl (blk_alloc w 32 vzero.cells) (new_below w _)
  unfold Oper.wp execOp
  simp [hop, Instr.alloc, hz]
  exact hK.out _ _ H.1 (fun _ => H.2)
theorem fill22 (v : Value) : (Array.map (fun x => [Value.slice none 0 0][x % 1]?.getD default) (Array.range 1)).setIfInBounds 0 v = #[v] := by kernel_rfl
theorem run_rows1 (D : Option Addr) (m c : Nat) (w : World) : (Instr.buildSlice 40 1 #[(0, .slice D m c)]).run Try.prog w = .ok (.slice (some ⟨w.heap.size, 0, none⟩) 1 1) (w.alloc (.cells #[.slice D m c] 22)) := by
  have hz := Try.zeroValue22
  simp only [Instr.buildSlice, Sem.run_bind, run_underlying Try.underlying40, Result.andThen_ok, sizeOf22]
  rw [if_neg (by decide), if_neg (by decide)]
  simp [hz, Instr.fill, Value.cells]
  rw [fill22]
  rfl
theorem ready_rows1 {ops : Array Oper} {Q : Exit → Act → World → Prop} {md : Region.Mode} {S : World → Prop} {fuel : Nat} {listed : Array Bool} {a : Act} {w : World} {i : Nat} {o : Oper} {rs : List Nat} (ho : ops[i]? = some o) (hg : o.guard = none) (x : Operand) (hop : o.op = .buildSlice 40 1 #[(0, x)]) (D : Option Addr) (m c : Nat) (l : List Am) (hx : a.eval x = .slice D m c) (hr : RowV w D m c l)
    (h : ∀ g w', RowsV w' (some ⟨g, 0, none⟩) 1 1 [l] → Below w.heap.size w w' → S w' ∧ wpAnyH Try.prog md ops Q S fuel (listed.setIfInBounds i true) (a.put o.dst (.slice (some ⟨g, 0, none⟩) 1 1)) w')
    (hs : AllReadyH Try.prog md ops Q S fuel listed a w rs) : AllReadyH Try.prog md ops Q S fuel listed a w (i :: rs) := by
  refine AllReadyH.cons ho (fun K hK => ?_) hs
  have hw : Region.wanted o (yielded ops a.tmps) = true := by simp [Region.wanted, hg]
  rw [if_pos hw]
  have H := h w.heap.size _ (rows_one hr) (new_below w _)
  have hrun := run_rows1 D m c w
  unfold Oper.wp execOp
  simp only [hop, List.map_toArray, List.map_cons, List.map_nil, hx, Sem.run_bind, hrun, Result.andThen_ok, Sem.run_pure]
  exact hK.out _ _ H.1 (fun _ => H.2)
theorem ready_lookup_ok {ops : Array Oper} {Q : Exit → Act → World → Prop} {md : Region.Mode} {S : World → Prop} {fuel : Nat} {listed : Array Bool} {a : Act} {w : World} {i : Nat} {o : Oper} {rs : List Nat} (ho : ops[i]? = some o) (hg : o.guard = none) (x y : Operand) (hop : o.op = .lookup 51 x y true) (b n : Nat) (f : Ky → Option Vl) (k : Ky) (r : Option Vl) (hx : a.eval x = .map (some b)) (hy : a.eval y = .agg k.cells.toArray) (hm : MapF w b n f) (hk : k.Ok) (hf : f k = r)
    (h : S w ∧ wpAnyH Try.prog md ops Q S fuel (listed.setIfInBounds i true) (a.put o.dst (.tuple #[.agg (r.getD vzero).cells.toArray, .bool r.isSome])) w)
    (hs : AllReadyH Try.prog md ops Q S fuel listed a w rs) : AllReadyH Try.prog md ops Q S fuel listed a w (i :: rs) := by
  refine AllReadyH.cons ho (fun K hK => ?_) hs
  have hw : Region.wanted o (yielded ops a.tmps) = true := by simp [Region.wanted, hg]
  rw [if_pos hw]
  have hr := run_lookup_ok hm hk
  rw [hf] at hr
  unfold Oper.wp execOp
  simp only [hop, hx, hy, Sem.run_bind, hr, Result.andThen_ok, Sem.run_pure]
  exact hK.out _ _ h.1 (fun _ => h.2)
set_option maxRecDepth 100000 in
set_option maxHeartbeats 4000000 in
theorem findP_is (A : Option Addr) (n cap : Nat) (l : List Am) (k : Ky) (o : Option Vl) (w : World) (h : RowV w A n cap l) (hk : k.Ok) (hn : n ≤ 1000) (hn6 : n ≤ 600) (ho : Hid (gt l k = o)) : Calls Try.prog 8 #[.slice A n cap, .agg k.cells.toArray] w (GivesV w o) := by
  have hz := zero30
  have HO := Lib.hid (show gt [only l k].flatten k = o by rw [List.flatten_singleton, gt_only h.ok]; exact ho.out)
  have OV := Lib.hid (show (o.getD vzero).Ok from getD_ok (ho.out ▸ (gt_ok h.ok).o k))
  have FF := Lib.hid (show FewR [only l k] from ⟨by simp, by simp; have := only_len l k; have := h.len; omega⟩)
  have H := Lib.hid h
  have HK := Lib.hid hk
  have S0 := Lib.hid (show FS w k ((w.alloc (.cells k.cells.toArray 28)).alloc (.cells vzero.cells.toArray 32)) from ⟨step_ (new_below w _) (new_below _ _), (blk_alloc w 28 k.cells).alloc _, blk2 w _ 32 vzero.cells⟩)
  clear h hk ho hn6
  go_enter Try.func8, Try.ntmps8
  go_wp2_with fail
  replace S0 := Lib.hid (S0.out.below (below_drew (Below.refl _ _)))
  refine wp_region_noPanic ?_
  refine wp_region_held_drew (S := FS w k) (by kernel_rfl) S0.out (fun _ => ?_)
  refine wpAnyH_take (i := 0) (oi := { dst := some 9, op := Go.Op.move (Go.Operand.tmp 0), type := 22, pos := _, after := #[], guard := none }) (v := ?_) rfl (by kernel_rfl) (by kernel_rfl) (by kernel_rfl) (fun _ _ _ h => h) (Or.inl ⟨by rfl, ?_⟩) S0.out ?_
  rotate_left
  · intro W hW; (go_simp; try with_reducible rfl)
  try simp only [Act.put, List.setIfInBounds_toArray, List.set_cons_zero, List.set_cons_succ]
  refine wpAnyH_take (i := 1) (oi := { dst := some 10, op := Go.Op.load 28 (Go.Operand.tmp 3), type := 28, pos := _, after := #[], guard := none }) (v := .agg k.cells.toArray) rfl (by kernel_rfl) (by kernel_rfl) (by kernel_rfl) (fun _ _ _ h => h) (yieldsIf_load_mid (by rfl) 28 (.tmp 3) rfl w.heap.size 0 rfl k.cells _ (fun W hW => hW.key.range) Try.underlying28 rfl (size27 HK.out.ml)) S0.out ?_
  try simp only [Act.put, List.setIfInBounds_toArray, List.set_cons_zero, List.set_cons_succ]
  refine wpAnyH_take (i := 5) (oi := { dst := some 14, op := Go.Op.load 28 (Go.Operand.tmp 3), type := 28, pos := _, after := #[], guard := none }) (v := .agg k.cells.toArray) rfl (by kernel_rfl) (by kernel_rfl) (by kernel_rfl) (fun _ _ _ h => h) (yieldsIf_load_mid (by rfl) 28 (.tmp 3) rfl w.heap.size 0 rfl k.cells _ (fun W hW => hW.key.range) Try.underlying28 rfl (size27 HK.out.ml)) S0.out ?_
  try simp only [Act.put, List.setIfInBounds_toArray, List.set_cons_zero, List.set_cons_succ]
  refine wpAnyH_ready (rs := [2, 10]) (by kernel_rfl) (by simp) ?_
  refine AllReadyH.cons (o := { dst := some 11, op := Go.Op.call { callee := Go.Callee.value (Go.Operand.func 28), args := #[Go.Operand.tmp 9, Go.Operand.tmp 10], argTypes := #[22, 28] }, type := 22, pos := _, after := #[{ on := 0, ground := Go.Ground.data }, { on := 1, ground := Go.Ground.data }], guard := none }) rfl (fun K hK => ?_) ?_
  ·
    go_simp
    refine (only_is A n cap l k _ (H.out.below S0.out.bel) HK.out hn).mono ?_
    rintro e w1 ⟨⟨D, m, c, rfl, r1⟩, b1⟩
    have S1 := Lib.hid (S0.out.below b1)
    have R1 := Lib.hid r1
    clear r1 b1
    go_wp2_with fail
    refine hK.out _ _ S1.out (fun _ => ?_)
    clear hK K
    try simp only [Act.put, List.setIfInBounds_toArray, List.set_cons_zero, List.set_cons_succ]
    refine wpAnyH_ready (rs := [3, 10]) (by kernel_rfl) (by simp) ?_
    refine ready_rows1 (o := { dst := some 12, op := Go.Op.buildSlice 40 1 #[(0, Go.Operand.tmp 11)], type := 40, pos := _, after := #[{ on := 2, ground := Go.Ground.data }], guard := none }) rfl rfl _ rfl D m c (only l k) rfl R1.out (fun g12 w2 q2 b2 => ⟨S1.out.below b2, ?_⟩) ?_
    ·
      have S2 := Lib.hid (S1.out.below b2)
      have R2 := Lib.hid q2
      clear q2 b2
      try simp only [Act.put, List.setIfInBounds_toArray, List.set_cons_zero, List.set_cons_succ]
      refine wpAnyH_ready (rs := [4, 10]) (by kernel_rfl) (by simp) ?_
      refine AllReadyH.cons (o := { dst := some 13, op := Go.Op.call { callee := Go.Callee.value (Go.Operand.func 27), args := #[Go.Operand.tmp 12], argTypes := #[40] }, type := 51, pos := _, after := #[{ on := 3, ground := Go.Ground.data }, { on := 2, ground := Go.Ground.chain }], guard := none }) rfl (fun K hK => ?_) ?_
      ·
        go_simp
        refine (collect_is _ _ _ [only l k] _ R2.out FF.out).mono ?_
        rintro e w3 ⟨⟨b, rfl, _, r3⟩, b3⟩
        have S3 := Lib.hid (S2.out.below b3)
        have R3 := Lib.hid r3
        clear r3 b3
        go_wp2_with fail
        refine hK.out _ _ S3.out (fun _ => ?_)
        clear hK K
        try simp only [Act.put, List.setIfInBounds_toArray, List.set_cons_zero, List.set_cons_succ]
        refine wpAnyH_ready (rs := [6, 10]) (by kernel_rfl) (by simp) ?_
        refine ready_lookup_ok (o := { dst := some 15, op := Go.Op.lookup 51 (Go.Operand.tmp 13) (Go.Operand.tmp 14) true, type := 33, pos := _, after := #[{ on := 4, ground := Go.Ground.data }, { on := 5, ground := Go.Ground.data }], guard := none }) rfl rfl _ _ rfl b 1000 _ k o rfl rfl R3.out HK.out HO.out ⟨S3.out, ?_⟩ ?_
        ·
          try simp only [Act.put, List.setIfInBounds_toArray, List.set_cons_zero, List.set_cons_succ]
          refine wpAnyH_take (i := 7) (oi := { dst := some 8, op := Go.Op.move (Go.Operand.tmp 15), type := 33, pos := _, after := #[{ on := 6, ground := Go.Ground.data }], guard := none }) (v := ?_) rfl (by kernel_rfl) (by kernel_rfl) (by kernel_rfl) (fun _ _ _ h => h) (Or.inl ⟨by rfl, ?_⟩) S3.out ?_
          rotate_left
          · intro W hW; (go_simp; try with_reducible rfl)
          try simp only [Act.put, List.setIfInBounds_toArray, List.set_cons_zero, List.set_cons_succ]
          refine wpAnyH_take (i := 8) (oi := { dst := some 16, op := Go.Op.extract (Go.Operand.tmp 8) 0, type := 32, pos := _, after := #[{ on := 7, ground := Go.Ground.data }], guard := none }) (v := ?_) rfl (by kernel_rfl) (by kernel_rfl) (by kernel_rfl) (fun _ _ _ h => h) (Or.inl ⟨by rfl, ?_⟩) S3.out ?_
          rotate_left
          · intro W hW; (go_simp; try with_reducible rfl)
          try simp only [Act.put, List.setIfInBounds_toArray, List.set_cons_zero, List.set_cons_succ]
          refine wpAnyH_take (i := 9) (oi := { dst := some 17, op := Go.Op.extract (Go.Operand.tmp 8) 1, type := 4, pos := _, after := #[{ on := 7, ground := Go.Ground.data }, { on := 11, ground := Go.Ground.gcOnly Go.Departure.lateStores }], guard := none }) (v := ?_) rfl (by kernel_rfl) (by kernel_rfl) (by kernel_rfl) (fun _ _ _ h => h) (Or.inl ⟨by rfl, ?_⟩) S3.out ?_
          rotate_left
          · intro W hW; (go_simp; try with_reducible rfl)
          try simp only [Act.put, List.setIfInBounds_toArray, List.set_cons_zero, List.set_cons_succ]
          refine wpAnyH_ready (rs := [10]) (by kernel_rfl) (by simp) ?_
          refine ready_alloc32 (o := { dst := some 6, op := Go.Op.alloc 32, type := 0, pos := _, after := #[], guard := none }) rfl rfl rfl (fun g6 w5 e5 z5 b5 => ⟨S3.out.below b5, ?_⟩) ?_
          ·
            have S5 := Lib.hid (S3.out.below b5)
            have R5 := Lib.hid (R3.out.below b5)
            have Z5 := Lib.hid z5
            have LG := Lib.hid (show w.heap.size + 1 < g6 from e5 ▸ S3.out.res.lt)
            clear e5 z5 b5
            try simp only [Act.put, List.setIfInBounds_toArray, List.set_cons_zero, List.set_cons_succ]
            refine wpAnyH_ready (rs := [11]) (by kernel_rfl) (by simp) ?_
            refine ready_store_vl (o := { dst := none, op := Go.Op.store 32 (Go.Operand.tmp 6) (Go.Operand.tmp 16), type := 0, pos := _, after := #[{ on := 10, ground := Go.Ground.data }, { on := 8, ground := Go.Ground.data }, { on := 4, ground := Go.Ground.chain }, { on := 0, ground := Go.Ground.phase }, { on := 1, ground := Go.Ground.phase }, { on := 2, ground := Go.Ground.phase }, { on := 3, ground := Go.Ground.phase }, { on := 4, ground := Go.Ground.phase }, { on := 5, ground := Go.Ground.phase }, { on := 6, ground := Go.Ground.phase }, { on := 7, ground := Go.Ground.phase }, { on := 8, ground := Go.Ground.phase }, { on := 9, ground := Go.Ground.textOnly Go.Departure.lateStores }, { on := 10, ground := Go.Ground.phase }], guard := none }) rfl rfl _ _ rfl g6 vzero (o.getD vzero) rfl rfl Z5.out rfl OV.out.tl (fun w6 N6 P6 => ?_) AllReadyH.nil
            have S6 := Lib.hid (S5.out.only P6 LG.out)
            refine ⟨S6.out, ?_⟩
            simp only [Act.put]
            refine wpAnyH_take (i := 12) (oi := { dst := some 7, op := Go.Op.assign (Go.Operand.tmp 17), type := 4, pos := _, after := #[{ on := 9, ground := Go.Ground.data }, { on := 11, ground := Go.Ground.chain }, { on := 0, ground := Go.Ground.phase }, { on := 1, ground := Go.Ground.phase }, { on := 2, ground := Go.Ground.phase }, { on := 3, ground := Go.Ground.phase }, { on := 4, ground := Go.Ground.phase }, { on := 5, ground := Go.Ground.phase }, { on := 6, ground := Go.Ground.phase }, { on := 7, ground := Go.Ground.phase }, { on := 8, ground := Go.Ground.phase }, { on := 9, ground := Go.Ground.phase }, { on := 10, ground := Go.Ground.phase }, { on := 11, ground := Go.Ground.phase }], guard := none }) (v := ?_) rfl (by kernel_rfl) (by kernel_rfl) (by kernel_rfl) (fun _ _ _ h => h) (Or.inl ⟨by rfl, ?_⟩) S6.out ?_
            rotate_left
            · intro W hW; (go_simp; try with_reducible rfl)
            try simp only [Act.put, List.setIfInBounds_toArray, List.set_cons_zero, List.set_cons_succ]
            refine wpAnyH_done (by kernel_rfl) ?_ _
            refine NoPanic.normal ?_
            go_wp2_with (first
              | go_skip
              | refine wpList_load_vl rfl _ rfl g6 0 (o.getD vzero) rfl N6.range OV.out.tl ?_
              | (refine wpList_store_vl rfl _ _ rfl (w.heap.size + 1) vzero (o.getD vzero) rfl rfl S6.out.res rfl OV.out.tl ?_; intro w9 N9 O9))
            refine bodyPost_ret (results_vlB rfl _ _ (w.heap.size + 1) (o.getD vzero) rfl N9.out OV.out.tl) rfl ?_
            exact ⟨rfl, S6.out.bel.trans (O9.out.below (Nat.le_succ _) S6.out.bel.size)⟩
          exact AllReadyH.nil
        refine ready_alloc32 (o := { dst := some 6, op := Go.Op.alloc 32, type := 0, pos := _, after := #[], guard := none }) rfl rfl rfl (fun g6 w7 e7 z7 b7 => ⟨S3.out.below b7, ?_⟩) ?_
        ·
          have S7 := Lib.hid (S3.out.below b7)
          have R7 := Lib.hid (R3.out.below b7)
          have Z7 := Lib.hid z7
          have LG := Lib.hid (show w.heap.size + 1 < g6 from e7 ▸ S3.out.res.lt)
          clear e7 z7 b7
          try simp only [Act.put, List.setIfInBounds_toArray, List.set_cons_zero, List.set_cons_succ]
          refine wpAnyH_ready (rs := [6]) (by kernel_rfl) (by simp) ?_
          refine ready_lookup_ok (o := { dst := some 15, op := Go.Op.lookup 51 (Go.Operand.tmp 13) (Go.Operand.tmp 14) true, type := 33, pos := _, after := #[{ on := 4, ground := Go.Ground.data }, { on := 5, ground := Go.Ground.data }], guard := none }) rfl rfl _ _ rfl b 1000 _ k o rfl rfl R7.out HK.out HO.out ⟨S7.out, ?_⟩ ?_
          ·
            try simp only [Act.put, List.setIfInBounds_toArray, List.set_cons_zero, List.set_cons_succ]
            refine wpAnyH_take (i := 7) (oi := { dst := some 8, op := Go.Op.move (Go.Operand.tmp 15), type := 33, pos := _, after := #[{ on := 6, ground := Go.Ground.data }], guard := none }) (v := ?_) rfl (by kernel_rfl) (by kernel_rfl) (by kernel_rfl) (fun _ _ _ h => h) (Or.inl ⟨by rfl, ?_⟩) S7.out ?_
            rotate_left
            · intro W hW; (go_simp; try with_reducible rfl)
            try simp only [Act.put, List.setIfInBounds_toArray, List.set_cons_zero, List.set_cons_succ]
            refine wpAnyH_take (i := 8) (oi := { dst := some 16, op := Go.Op.extract (Go.Operand.tmp 8) 0, type := 32, pos := _, after := #[{ on := 7, ground := Go.Ground.data }], guard := none }) (v := ?_) rfl (by kernel_rfl) (by kernel_rfl) (by kernel_rfl) (fun _ _ _ h => h) (Or.inl ⟨by rfl, ?_⟩) S7.out ?_
            rotate_left
            · intro W hW; (go_simp; try with_reducible rfl)
            try simp only [Act.put, List.setIfInBounds_toArray, List.set_cons_zero, List.set_cons_succ]
            refine wpAnyH_take (i := 9) (oi := { dst := some 17, op := Go.Op.extract (Go.Operand.tmp 8) 1, type := 4, pos := _, after := #[{ on := 7, ground := Go.Ground.data }, { on := 11, ground := Go.Ground.gcOnly Go.Departure.lateStores }], guard := none }) (v := ?_) rfl (by kernel_rfl) (by kernel_rfl) (by kernel_rfl) (fun _ _ _ h => h) (Or.inl ⟨by rfl, ?_⟩) S7.out ?_
            rotate_left
            · intro W hW; (go_simp; try with_reducible rfl)
            try simp only [Act.put, List.setIfInBounds_toArray, List.set_cons_zero, List.set_cons_succ]
            refine wpAnyH_ready (rs := [11]) (by kernel_rfl) (by simp) ?_
            refine ready_store_vl (o := { dst := none, op := Go.Op.store 32 (Go.Operand.tmp 6) (Go.Operand.tmp 16), type := 0, pos := _, after := #[{ on := 10, ground := Go.Ground.data }, { on := 8, ground := Go.Ground.data }, { on := 4, ground := Go.Ground.chain }, { on := 0, ground := Go.Ground.phase }, { on := 1, ground := Go.Ground.phase }, { on := 2, ground := Go.Ground.phase }, { on := 3, ground := Go.Ground.phase }, { on := 4, ground := Go.Ground.phase }, { on := 5, ground := Go.Ground.phase }, { on := 6, ground := Go.Ground.phase }, { on := 7, ground := Go.Ground.phase }, { on := 8, ground := Go.Ground.phase }, { on := 9, ground := Go.Ground.textOnly Go.Departure.lateStores }, { on := 10, ground := Go.Ground.phase }], guard := none }) rfl rfl _ _ rfl g6 vzero (o.getD vzero) rfl rfl Z7.out rfl OV.out.tl (fun w9 N9 P9 => ?_) AllReadyH.nil
            have S9 := Lib.hid (S7.out.only P9 LG.out)
            refine ⟨S9.out, ?_⟩
            simp only [Act.put]
            refine wpAnyH_take (i := 12) (oi := { dst := some 7, op := Go.Op.assign (Go.Operand.tmp 17), type := 4, pos := _, after := #[{ on := 9, ground := Go.Ground.data }, { on := 11, ground := Go.Ground.chain }, { on := 0, ground := Go.Ground.phase }, { on := 1, ground := Go.Ground.phase }, { on := 2, ground := Go.Ground.phase }, { on := 3, ground := Go.Ground.phase }, { on := 4, ground := Go.Ground.phase }, { on := 5, ground := Go.Ground.phase }, { on := 6, ground := Go.Ground.phase }, { on := 7, ground := Go.Ground.phase }, { on := 8, ground := Go.Ground.phase }, { on := 9, ground := Go.Ground.phase }, { on := 10, ground := Go.Ground.phase }, { on := 11, ground := Go.Ground.phase }], guard := none }) (v := ?_) rfl (by kernel_rfl) (by kernel_rfl) (by kernel_rfl) (fun _ _ _ h => h) (Or.inl ⟨by rfl, ?_⟩) S9.out ?_
            rotate_left
            · intro W hW; (go_simp; try with_reducible rfl)
            try simp only [Act.put, List.setIfInBounds_toArray, List.set_cons_zero, List.set_cons_succ]
            refine wpAnyH_done (by kernel_rfl) ?_ _
            refine NoPanic.normal ?_
            go_wp2_with (first
              | go_skip
              | refine wpList_load_vl rfl _ rfl g6 0 (o.getD vzero) rfl N9.range OV.out.tl ?_
              | (refine wpList_store_vl rfl _ _ rfl (w.heap.size + 1) vzero (o.getD vzero) rfl rfl S9.out.res rfl OV.out.tl ?_; intro w9 N9 O9))
            refine bodyPost_ret (results_vlB rfl _ _ (w.heap.size + 1) (o.getD vzero) rfl N9.out OV.out.tl) rfl ?_
            exact ⟨rfl, S9.out.bel.trans (O9.out.below (Nat.le_succ _) S9.out.bel.size)⟩
          exact AllReadyH.nil
        exact AllReadyH.nil
      refine ready_alloc32 (o := { dst := some 6, op := Go.Op.alloc 32, type := 0, pos := _, after := #[], guard := none }) rfl rfl rfl (fun g6 w10 e10 z10 b10 => ⟨S2.out.below b10, ?_⟩) ?_
      ·
        have S10 := Lib.hid (S2.out.below b10)
        have R10 := Lib.hid (R2.out.below b10)
        have Z10 := Lib.hid z10
        have LG := Lib.hid (show w.heap.size + 1 < g6 from e10 ▸ S2.out.res.lt)
        clear e10 z10 b10
        try simp only [Act.put, List.setIfInBounds_toArray, List.set_cons_zero, List.set_cons_succ]
        refine wpAnyH_ready (rs := [4]) (by kernel_rfl) (by simp) ?_
        refine AllReadyH.cons (o := { dst := some 13, op := Go.Op.call { callee := Go.Callee.value (Go.Operand.func 27), args := #[Go.Operand.tmp 12], argTypes := #[40] }, type := 51, pos := _, after := #[{ on := 3, ground := Go.Ground.data }, { on := 2, ground := Go.Ground.chain }], guard := none }) rfl (fun K hK => ?_) ?_
        ·
          go_simp
          refine (collect_is _ _ _ [only l k] _ R10.out FF.out).mono ?_
          rintro e w11 ⟨⟨b, rfl, _, r11⟩, b11⟩
          have S11 := Lib.hid (S10.out.below b11)
          have Z11 := Lib.hid (Z10.out.below b11)
          have R11 := Lib.hid r11
          clear r11 b11
          go_wp2_with fail
          refine hK.out _ _ S11.out (fun _ => ?_)
          clear hK K
          try simp only [Act.put, List.setIfInBounds_toArray, List.set_cons_zero, List.set_cons_succ]
          refine wpAnyH_ready (rs := [6]) (by kernel_rfl) (by simp) ?_
          refine ready_lookup_ok (o := { dst := some 15, op := Go.Op.lookup 51 (Go.Operand.tmp 13) (Go.Operand.tmp 14) true, type := 33, pos := _, after := #[{ on := 4, ground := Go.Ground.data }, { on := 5, ground := Go.Ground.data }], guard := none }) rfl rfl _ _ rfl b 1000 _ k o rfl rfl R11.out HK.out HO.out ⟨S11.out, ?_⟩ ?_
          ·
            try simp only [Act.put, List.setIfInBounds_toArray, List.set_cons_zero, List.set_cons_succ]
            refine wpAnyH_take (i := 7) (oi := { dst := some 8, op := Go.Op.move (Go.Operand.tmp 15), type := 33, pos := _, after := #[{ on := 6, ground := Go.Ground.data }], guard := none }) (v := ?_) rfl (by kernel_rfl) (by kernel_rfl) (by kernel_rfl) (fun _ _ _ h => h) (Or.inl ⟨by rfl, ?_⟩) S11.out ?_
            rotate_left
            · intro W hW; (go_simp; try with_reducible rfl)
            try simp only [Act.put, List.setIfInBounds_toArray, List.set_cons_zero, List.set_cons_succ]
            refine wpAnyH_take (i := 8) (oi := { dst := some 16, op := Go.Op.extract (Go.Operand.tmp 8) 0, type := 32, pos := _, after := #[{ on := 7, ground := Go.Ground.data }], guard := none }) (v := ?_) rfl (by kernel_rfl) (by kernel_rfl) (by kernel_rfl) (fun _ _ _ h => h) (Or.inl ⟨by rfl, ?_⟩) S11.out ?_
            rotate_left
            · intro W hW; (go_simp; try with_reducible rfl)
            try simp only [Act.put, List.setIfInBounds_toArray, List.set_cons_zero, List.set_cons_succ]
            refine wpAnyH_take (i := 9) (oi := { dst := some 17, op := Go.Op.extract (Go.Operand.tmp 8) 1, type := 4, pos := _, after := #[{ on := 7, ground := Go.Ground.data }, { on := 11, ground := Go.Ground.gcOnly Go.Departure.lateStores }], guard := none }) (v := ?_) rfl (by kernel_rfl) (by kernel_rfl) (by kernel_rfl) (fun _ _ _ h => h) (Or.inl ⟨by rfl, ?_⟩) S11.out ?_
            rotate_left
            · intro W hW; (go_simp; try with_reducible rfl)
            try simp only [Act.put, List.setIfInBounds_toArray, List.set_cons_zero, List.set_cons_succ]
            refine wpAnyH_ready (rs := [11]) (by kernel_rfl) (by simp) ?_
            refine ready_store_vl (o := { dst := none, op := Go.Op.store 32 (Go.Operand.tmp 6) (Go.Operand.tmp 16), type := 0, pos := _, after := #[{ on := 10, ground := Go.Ground.data }, { on := 8, ground := Go.Ground.data }, { on := 4, ground := Go.Ground.chain }, { on := 0, ground := Go.Ground.phase }, { on := 1, ground := Go.Ground.phase }, { on := 2, ground := Go.Ground.phase }, { on := 3, ground := Go.Ground.phase }, { on := 4, ground := Go.Ground.phase }, { on := 5, ground := Go.Ground.phase }, { on := 6, ground := Go.Ground.phase }, { on := 7, ground := Go.Ground.phase }, { on := 8, ground := Go.Ground.phase }, { on := 9, ground := Go.Ground.textOnly Go.Departure.lateStores }, { on := 10, ground := Go.Ground.phase }], guard := none }) rfl rfl _ _ rfl g6 vzero (o.getD vzero) rfl rfl Z11.out rfl OV.out.tl (fun w13 N13 P13 => ?_) AllReadyH.nil
            have S13 := Lib.hid (S11.out.only P13 LG.out)
            refine ⟨S13.out, ?_⟩
            simp only [Act.put]
            refine wpAnyH_take (i := 12) (oi := { dst := some 7, op := Go.Op.assign (Go.Operand.tmp 17), type := 4, pos := _, after := #[{ on := 9, ground := Go.Ground.data }, { on := 11, ground := Go.Ground.chain }, { on := 0, ground := Go.Ground.phase }, { on := 1, ground := Go.Ground.phase }, { on := 2, ground := Go.Ground.phase }, { on := 3, ground := Go.Ground.phase }, { on := 4, ground := Go.Ground.phase }, { on := 5, ground := Go.Ground.phase }, { on := 6, ground := Go.Ground.phase }, { on := 7, ground := Go.Ground.phase }, { on := 8, ground := Go.Ground.phase }, { on := 9, ground := Go.Ground.phase }, { on := 10, ground := Go.Ground.phase }, { on := 11, ground := Go.Ground.phase }], guard := none }) (v := ?_) rfl (by kernel_rfl) (by kernel_rfl) (by kernel_rfl) (fun _ _ _ h => h) (Or.inl ⟨by rfl, ?_⟩) S13.out ?_
            rotate_left
            · intro W hW; (go_simp; try with_reducible rfl)
            try simp only [Act.put, List.setIfInBounds_toArray, List.set_cons_zero, List.set_cons_succ]
            refine wpAnyH_done (by kernel_rfl) ?_ _
            refine NoPanic.normal ?_
            go_wp2_with (first
              | go_skip
              | refine wpList_load_vl rfl _ rfl g6 0 (o.getD vzero) rfl N13.range OV.out.tl ?_
              | (refine wpList_store_vl rfl _ _ rfl (w.heap.size + 1) vzero (o.getD vzero) rfl rfl S13.out.res rfl OV.out.tl ?_; intro w9 N9 O9))
            refine bodyPost_ret (results_vlB rfl _ _ (w.heap.size + 1) (o.getD vzero) rfl N9.out OV.out.tl) rfl ?_
            exact ⟨rfl, S13.out.bel.trans (O9.out.below (Nat.le_succ _) S13.out.bel.size)⟩
          exact AllReadyH.nil
        exact AllReadyH.nil
      exact AllReadyH.nil
    refine ready_alloc32 (o := { dst := some 6, op := Go.Op.alloc 32, type := 0, pos := _, after := #[], guard := none }) rfl rfl rfl (fun g6 w14 e14 z14 b14 => ⟨S1.out.below b14, ?_⟩) ?_
    ·
      have S14 := Lib.hid (S1.out.below b14)
      have R14 := Lib.hid (R1.out.below b14)
      have Z14 := Lib.hid z14
      have LG := Lib.hid (show w.heap.size + 1 < g6 from e14 ▸ S1.out.res.lt)
      clear e14 z14 b14
      try simp only [Act.put, List.setIfInBounds_toArray, List.set_cons_zero, List.set_cons_succ]
      refine wpAnyH_ready (rs := [3]) (by kernel_rfl) (by simp) ?_
      refine ready_rows1 (o := { dst := some 12, op := Go.Op.buildSlice 40 1 #[(0, Go.Operand.tmp 11)], type := 40, pos := _, after := #[{ on := 2, ground := Go.Ground.data }], guard := none }) rfl rfl _ rfl D m c (only l k) rfl R14.out (fun g12 w15 q15 b15 => ⟨S14.out.below b15, ?_⟩) ?_
      ·
        have S15 := Lib.hid (S14.out.below b15)
        have Z15 := Lib.hid (Z14.out.below b15)
        have R15 := Lib.hid q15
        clear q15 b15
        try simp only [Act.put, List.setIfInBounds_toArray, List.set_cons_zero, List.set_cons_succ]
        refine wpAnyH_ready (rs := [4]) (by kernel_rfl) (by simp) ?_
        refine AllReadyH.cons (o := { dst := some 13, op := Go.Op.call { callee := Go.Callee.value (Go.Operand.func 27), args := #[Go.Operand.tmp 12], argTypes := #[40] }, type := 51, pos := _, after := #[{ on := 3, ground := Go.Ground.data }, { on := 2, ground := Go.Ground.chain }], guard := none }) rfl (fun K hK => ?_) ?_
        ·
          go_simp
          refine (collect_is _ _ _ [only l k] _ R15.out FF.out).mono ?_
          rintro e w16 ⟨⟨b, rfl, _, r16⟩, b16⟩
          have S16 := Lib.hid (S15.out.below b16)
          have Z16 := Lib.hid (Z15.out.below b16)
          have R16 := Lib.hid r16
          clear r16 b16
          go_wp2_with fail
          refine hK.out _ _ S16.out (fun _ => ?_)
          clear hK K
          try simp only [Act.put, List.setIfInBounds_toArray, List.set_cons_zero, List.set_cons_succ]
          refine wpAnyH_ready (rs := [6]) (by kernel_rfl) (by simp) ?_
          refine ready_lookup_ok (o := { dst := some 15, op := Go.Op.lookup 51 (Go.Operand.tmp 13) (Go.Operand.tmp 14) true, type := 33, pos := _, after := #[{ on := 4, ground := Go.Ground.data }, { on := 5, ground := Go.Ground.data }], guard := none }) rfl rfl _ _ rfl b 1000 _ k o rfl rfl R16.out HK.out HO.out ⟨S16.out, ?_⟩ ?_
          ·
            try simp only [Act.put, List.setIfInBounds_toArray, List.set_cons_zero, List.set_cons_succ]
            refine wpAnyH_take (i := 7) (oi := { dst := some 8, op := Go.Op.move (Go.Operand.tmp 15), type := 33, pos := _, after := #[{ on := 6, ground := Go.Ground.data }], guard := none }) (v := ?_) rfl (by kernel_rfl) (by kernel_rfl) (by kernel_rfl) (fun _ _ _ h => h) (Or.inl ⟨by rfl, ?_⟩) S16.out ?_
            rotate_left
            · intro W hW; (go_simp; try with_reducible rfl)
            try simp only [Act.put, List.setIfInBounds_toArray, List.set_cons_zero, List.set_cons_succ]
            refine wpAnyH_take (i := 8) (oi := { dst := some 16, op := Go.Op.extract (Go.Operand.tmp 8) 0, type := 32, pos := _, after := #[{ on := 7, ground := Go.Ground.data }], guard := none }) (v := ?_) rfl (by kernel_rfl) (by kernel_rfl) (by kernel_rfl) (fun _ _ _ h => h) (Or.inl ⟨by rfl, ?_⟩) S16.out ?_
            rotate_left
            · intro W hW; (go_simp; try with_reducible rfl)
            try simp only [Act.put, List.setIfInBounds_toArray, List.set_cons_zero, List.set_cons_succ]
            refine wpAnyH_take (i := 9) (oi := { dst := some 17, op := Go.Op.extract (Go.Operand.tmp 8) 1, type := 4, pos := _, after := #[{ on := 7, ground := Go.Ground.data }, { on := 11, ground := Go.Ground.gcOnly Go.Departure.lateStores }], guard := none }) (v := ?_) rfl (by kernel_rfl) (by kernel_rfl) (by kernel_rfl) (fun _ _ _ h => h) (Or.inl ⟨by rfl, ?_⟩) S16.out ?_
            rotate_left
            · intro W hW; (go_simp; try with_reducible rfl)
            try simp only [Act.put, List.setIfInBounds_toArray, List.set_cons_zero, List.set_cons_succ]
            refine wpAnyH_ready (rs := [11]) (by kernel_rfl) (by simp) ?_
            refine ready_store_vl (o := { dst := none, op := Go.Op.store 32 (Go.Operand.tmp 6) (Go.Operand.tmp 16), type := 0, pos := _, after := #[{ on := 10, ground := Go.Ground.data }, { on := 8, ground := Go.Ground.data }, { on := 4, ground := Go.Ground.chain }, { on := 0, ground := Go.Ground.phase }, { on := 1, ground := Go.Ground.phase }, { on := 2, ground := Go.Ground.phase }, { on := 3, ground := Go.Ground.phase }, { on := 4, ground := Go.Ground.phase }, { on := 5, ground := Go.Ground.phase }, { on := 6, ground := Go.Ground.phase }, { on := 7, ground := Go.Ground.phase }, { on := 8, ground := Go.Ground.phase }, { on := 9, ground := Go.Ground.textOnly Go.Departure.lateStores }, { on := 10, ground := Go.Ground.phase }], guard := none }) rfl rfl _ _ rfl g6 vzero (o.getD vzero) rfl rfl Z16.out rfl OV.out.tl (fun w18 N18 P18 => ?_) AllReadyH.nil
            have S18 := Lib.hid (S16.out.only P18 LG.out)
            refine ⟨S18.out, ?_⟩
            simp only [Act.put]
            refine wpAnyH_take (i := 12) (oi := { dst := some 7, op := Go.Op.assign (Go.Operand.tmp 17), type := 4, pos := _, after := #[{ on := 9, ground := Go.Ground.data }, { on := 11, ground := Go.Ground.chain }, { on := 0, ground := Go.Ground.phase }, { on := 1, ground := Go.Ground.phase }, { on := 2, ground := Go.Ground.phase }, { on := 3, ground := Go.Ground.phase }, { on := 4, ground := Go.Ground.phase }, { on := 5, ground := Go.Ground.phase }, { on := 6, ground := Go.Ground.phase }, { on := 7, ground := Go.Ground.phase }, { on := 8, ground := Go.Ground.phase }, { on := 9, ground := Go.Ground.phase }, { on := 10, ground := Go.Ground.phase }, { on := 11, ground := Go.Ground.phase }], guard := none }) (v := ?_) rfl (by kernel_rfl) (by kernel_rfl) (by kernel_rfl) (fun _ _ _ h => h) (Or.inl ⟨by rfl, ?_⟩) S18.out ?_
            rotate_left
            · intro W hW; (go_simp; try with_reducible rfl)
            try simp only [Act.put, List.setIfInBounds_toArray, List.set_cons_zero, List.set_cons_succ]
            refine wpAnyH_done (by kernel_rfl) ?_ _
            refine NoPanic.normal ?_
            go_wp2_with (first
              | go_skip
              | refine wpList_load_vl rfl _ rfl g6 0 (o.getD vzero) rfl N18.range OV.out.tl ?_
              | (refine wpList_store_vl rfl _ _ rfl (w.heap.size + 1) vzero (o.getD vzero) rfl rfl S18.out.res rfl OV.out.tl ?_; intro w9 N9 O9))
            refine bodyPost_ret (results_vlB rfl _ _ (w.heap.size + 1) (o.getD vzero) rfl N9.out OV.out.tl) rfl ?_
            exact ⟨rfl, S18.out.bel.trans (O9.out.below (Nat.le_succ _) S18.out.bel.size)⟩
          exact AllReadyH.nil
        exact AllReadyH.nil
      exact AllReadyH.nil
    exact AllReadyH.nil
  refine ready_alloc32 (o := { dst := some 6, op := Go.Op.alloc 32, type := 0, pos := _, after := #[], guard := none }) rfl rfl rfl (fun g6 w19 e19 z19 b19 => ⟨S0.out.below b19, ?_⟩) ?_
  ·
    have S19 := Lib.hid (S0.out.below b19)
    have Z19 := Lib.hid z19
    have LG := Lib.hid (show w.heap.size + 1 < g6 from e19 ▸ S0.out.res.lt)
    clear e19 z19 b19
    try simp only [Act.put, List.setIfInBounds_toArray, List.set_cons_zero, List.set_cons_succ]
    refine wpAnyH_ready (rs := [2]) (by kernel_rfl) (by simp) ?_
    refine AllReadyH.cons (o := { dst := some 11, op := Go.Op.call { callee := Go.Callee.value (Go.Operand.func 28), args := #[Go.Operand.tmp 9, Go.Operand.tmp 10], argTypes := #[22, 28] }, type := 22, pos := _, after := #[{ on := 0, ground := Go.Ground.data }, { on := 1, ground := Go.Ground.data }], guard := none }) rfl (fun K hK => ?_) ?_
    ·
      go_simp
      refine (only_is A n cap l k _ (H.out.below S19.out.bel) HK.out hn).mono ?_
      rintro e w20 ⟨⟨D, m, c, rfl, r20⟩, b20⟩
      have S20 := Lib.hid (S19.out.below b20)
      have Z20 := Lib.hid (Z19.out.below b20)
      have R20 := Lib.hid r20
      clear r20 b20
      go_wp2_with fail
      refine hK.out _ _ S20.out (fun _ => ?_)
      clear hK K
      try simp only [Act.put, List.setIfInBounds_toArray, List.set_cons_zero, List.set_cons_succ]
      refine wpAnyH_ready (rs := [3]) (by kernel_rfl) (by simp) ?_
      refine ready_rows1 (o := { dst := some 12, op := Go.Op.buildSlice 40 1 #[(0, Go.Operand.tmp 11)], type := 40, pos := _, after := #[{ on := 2, ground := Go.Ground.data }], guard := none }) rfl rfl _ rfl D m c (only l k) rfl R20.out (fun g12 w21 q21 b21 => ⟨S20.out.below b21, ?_⟩) ?_
      ·
        have S21 := Lib.hid (S20.out.below b21)
        have Z21 := Lib.hid (Z20.out.below b21)
        have R21 := Lib.hid q21
        clear q21 b21
        try simp only [Act.put, List.setIfInBounds_toArray, List.set_cons_zero, List.set_cons_succ]
        refine wpAnyH_ready (rs := [4]) (by kernel_rfl) (by simp) ?_
        refine AllReadyH.cons (o := { dst := some 13, op := Go.Op.call { callee := Go.Callee.value (Go.Operand.func 27), args := #[Go.Operand.tmp 12], argTypes := #[40] }, type := 51, pos := _, after := #[{ on := 3, ground := Go.Ground.data }, { on := 2, ground := Go.Ground.chain }], guard := none }) rfl (fun K hK => ?_) ?_
        ·
          go_simp
          refine (collect_is _ _ _ [only l k] _ R21.out FF.out).mono ?_
          rintro e w22 ⟨⟨b, rfl, _, r22⟩, b22⟩
          have S22 := Lib.hid (S21.out.below b22)
          have Z22 := Lib.hid (Z21.out.below b22)
          have R22 := Lib.hid r22
          clear r22 b22
          go_wp2_with fail
          refine hK.out _ _ S22.out (fun _ => ?_)
          clear hK K
          try simp only [Act.put, List.setIfInBounds_toArray, List.set_cons_zero, List.set_cons_succ]
          refine wpAnyH_ready (rs := [6]) (by kernel_rfl) (by simp) ?_
          refine ready_lookup_ok (o := { dst := some 15, op := Go.Op.lookup 51 (Go.Operand.tmp 13) (Go.Operand.tmp 14) true, type := 33, pos := _, after := #[{ on := 4, ground := Go.Ground.data }, { on := 5, ground := Go.Ground.data }], guard := none }) rfl rfl _ _ rfl b 1000 _ k o rfl rfl R22.out HK.out HO.out ⟨S22.out, ?_⟩ ?_
          ·
            try simp only [Act.put, List.setIfInBounds_toArray, List.set_cons_zero, List.set_cons_succ]
            refine wpAnyH_take (i := 7) (oi := { dst := some 8, op := Go.Op.move (Go.Operand.tmp 15), type := 33, pos := _, after := #[{ on := 6, ground := Go.Ground.data }], guard := none }) (v := ?_) rfl (by kernel_rfl) (by kernel_rfl) (by kernel_rfl) (fun _ _ _ h => h) (Or.inl ⟨by rfl, ?_⟩) S22.out ?_
            rotate_left
            · intro W hW; (go_simp; try with_reducible rfl)
            try simp only [Act.put, List.setIfInBounds_toArray, List.set_cons_zero, List.set_cons_succ]
            refine wpAnyH_take (i := 8) (oi := { dst := some 16, op := Go.Op.extract (Go.Operand.tmp 8) 0, type := 32, pos := _, after := #[{ on := 7, ground := Go.Ground.data }], guard := none }) (v := ?_) rfl (by kernel_rfl) (by kernel_rfl) (by kernel_rfl) (fun _ _ _ h => h) (Or.inl ⟨by rfl, ?_⟩) S22.out ?_
            rotate_left
            · intro W hW; (go_simp; try with_reducible rfl)
            try simp only [Act.put, List.setIfInBounds_toArray, List.set_cons_zero, List.set_cons_succ]
            refine wpAnyH_take (i := 9) (oi := { dst := some 17, op := Go.Op.extract (Go.Operand.tmp 8) 1, type := 4, pos := _, after := #[{ on := 7, ground := Go.Ground.data }, { on := 11, ground := Go.Ground.gcOnly Go.Departure.lateStores }], guard := none }) (v := ?_) rfl (by kernel_rfl) (by kernel_rfl) (by kernel_rfl) (fun _ _ _ h => h) (Or.inl ⟨by rfl, ?_⟩) S22.out ?_
            rotate_left
            · intro W hW; (go_simp; try with_reducible rfl)
            try simp only [Act.put, List.setIfInBounds_toArray, List.set_cons_zero, List.set_cons_succ]
            refine wpAnyH_ready (rs := [11]) (by kernel_rfl) (by simp) ?_
            refine ready_store_vl (o := { dst := none, op := Go.Op.store 32 (Go.Operand.tmp 6) (Go.Operand.tmp 16), type := 0, pos := _, after := #[{ on := 10, ground := Go.Ground.data }, { on := 8, ground := Go.Ground.data }, { on := 4, ground := Go.Ground.chain }, { on := 0, ground := Go.Ground.phase }, { on := 1, ground := Go.Ground.phase }, { on := 2, ground := Go.Ground.phase }, { on := 3, ground := Go.Ground.phase }, { on := 4, ground := Go.Ground.phase }, { on := 5, ground := Go.Ground.phase }, { on := 6, ground := Go.Ground.phase }, { on := 7, ground := Go.Ground.phase }, { on := 8, ground := Go.Ground.phase }, { on := 9, ground := Go.Ground.textOnly Go.Departure.lateStores }, { on := 10, ground := Go.Ground.phase }], guard := none }) rfl rfl _ _ rfl g6 vzero (o.getD vzero) rfl rfl Z22.out rfl OV.out.tl (fun w24 N24 P24 => ?_) AllReadyH.nil
            have S24 := Lib.hid (S22.out.only P24 LG.out)
            refine ⟨S24.out, ?_⟩
            simp only [Act.put]
            refine wpAnyH_take (i := 12) (oi := { dst := some 7, op := Go.Op.assign (Go.Operand.tmp 17), type := 4, pos := _, after := #[{ on := 9, ground := Go.Ground.data }, { on := 11, ground := Go.Ground.chain }, { on := 0, ground := Go.Ground.phase }, { on := 1, ground := Go.Ground.phase }, { on := 2, ground := Go.Ground.phase }, { on := 3, ground := Go.Ground.phase }, { on := 4, ground := Go.Ground.phase }, { on := 5, ground := Go.Ground.phase }, { on := 6, ground := Go.Ground.phase }, { on := 7, ground := Go.Ground.phase }, { on := 8, ground := Go.Ground.phase }, { on := 9, ground := Go.Ground.phase }, { on := 10, ground := Go.Ground.phase }, { on := 11, ground := Go.Ground.phase }], guard := none }) (v := ?_) rfl (by kernel_rfl) (by kernel_rfl) (by kernel_rfl) (fun _ _ _ h => h) (Or.inl ⟨by rfl, ?_⟩) S24.out ?_
            rotate_left
            · intro W hW; (go_simp; try with_reducible rfl)
            try simp only [Act.put, List.setIfInBounds_toArray, List.set_cons_zero, List.set_cons_succ]
            refine wpAnyH_done (by kernel_rfl) ?_ _
            refine NoPanic.normal ?_
            go_wp2_with (first
              | go_skip
              | refine wpList_load_vl rfl _ rfl g6 0 (o.getD vzero) rfl N24.range OV.out.tl ?_
              | (refine wpList_store_vl rfl _ _ rfl (w.heap.size + 1) vzero (o.getD vzero) rfl rfl S24.out.res rfl OV.out.tl ?_; intro w9 N9 O9))
            refine bodyPost_ret (results_vlB rfl _ _ (w.heap.size + 1) (o.getD vzero) rfl N9.out OV.out.tl) rfl ?_
            exact ⟨rfl, S24.out.bel.trans (O9.out.below (Nat.le_succ _) S24.out.bel.size)⟩
          exact AllReadyH.nil
        exact AllReadyH.nil
      exact AllReadyH.nil
    exact AllReadyH.nil
  exact AllReadyH.nil
end Go.Proofs.Ytkphpicfgpgkkaa
