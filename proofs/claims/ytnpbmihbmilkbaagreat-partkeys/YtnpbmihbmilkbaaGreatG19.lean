/- The contract of Out of the reference: a key as bytes. -/
import Derived.Test.YtnpbmihbmilkbaaGreatG01
import Derived.Test.YtnpbmihbmilkbaaGreatG16
import Derived.Test.YtnpbmihbmilkbaaGreatG17
import Derived.Test.YtnpbmihbmilkbaaGreatG18
namespace Go.Proofs.YtnpbmihbmilkbaaGreat
open Go.RowKit
def GivesRow (w : World) (l : List Int) (e : Ending) (w' : World) : Prop := ∃ v, e = .returned v ∧ w'.ownsRow (w.heap.size + 1) 5 1 v l.length (l.map (Value.int .u8)) ∧ M.Bytes l ∧ w.heap.size + 1 ≤ w'.heap.size ∧ Below w.heap.size w w'
theorem WS.grown {w : World} {k : Ky} {W W' : World} {n : Nat} {v : Value} {xs : List Value} (h : WS w k W) (hown : W.ownsRow (w.heap.size + 1) 5 1 v n xs) (hg : W.grownBy W' v.ownBlock) : WS w k W' :=
  ⟨h.bel.grown hg h.bel.size (fun k hk => Nat.le_of_succ_le (hown.lt k hk).1), keepA_grown hown hg _ _ _ (by decide) h.blk⟩
theorem ws_one (w : World) (k : Ky) : WS w k (w.alloc (.cells k.cells.toArray 48)) := ⟨new_below w _, blk_alloc w 48 k.cells⟩
theorem WS.lt {w : World} {k : Ky} {W : World} (h : WS w k W) : w.heap.size + 1 ≤ W.heap.size := h.blk.lt
theorem BytesIn.grown {r : Nat} {w w' : World} {v : Value} {l : List Int} {row : Option Nat} (h : BytesIn (some r) w v l) (hg : w.grownBy w' row) (hn : row ≠ some r) : BytesIn (some r) w' v l := by
  obtain ⟨⟨a, cap, rfl, hcap, hb, hc⟩, hR⟩ := h
  refine ⟨⟨a, cap, rfl, hcap, hb, fun h0 => ?_⟩, hR⟩
  obtain ⟨g, off, rfl, hgl, hcell⟩ := hc h0
  have hx : r = g := by have := hR g off _ _ rfl h0; simpa using this
  refine ⟨g, off, rfl, Nat.lt_of_lt_of_le hgl hg.size, fun i hi => ?_⟩
  rw [← hcell i hi]
  simp only [World.cell?, hg.block g hgl (fun e => hn (by rw [← e, hx]))]
theorem one_in (w : World) (c : Int) (h0 : 0 ≤ c) (h1 : c < 256) : BytesIn (some w.heap.size) (w.alloc (.cells #[.int .u8 c] 5)) (.slice (some ⟨w.heap.size, 0, none⟩) 1 1) [c] :=
  ⟨bytes_one w c h0 h1, fun g off n cap hv _ => by simp only [Value.slice.injEq, Option.some.injEq, Addr.mk.injEq] at hv; rw [hv.1.1]⟩
theorem ready_one {ops : Array Oper} {Q : Exit → Act → World → Prop} {md : Region.Mode} {S : World → Prop} {fuel : Nat} {listed : Array Bool} {a : Act} {w : World} {i : Nat} {o : Oper} {rs : List Nat} (ho : ops[i]? = some o) (hg : o.guard = none) (x : Operand) (hop : o.op = .buildSlice 74 1 #[(0, x)]) (c : Int) (hx : a.eval x = .int .u8 c)
    (h : ∀ g w', g = w.heap.size → w' = w.alloc (.cells #[.int .u8 c] 5) → S w' ∧ wpAnyH Tryz.prog md ops Q S fuel (listed.setIfInBounds i true) (a.put o.dst (.slice (some ⟨g, 0, none⟩) 1 1)) w')
    (hs : AllReadyH Tryz.prog md ops Q S fuel listed a w rs) : AllReadyH Tryz.prog md ops Q S fuel listed a w (i :: rs) := by
  refine AllReadyH.cons ho (fun K hK => ?_) hs
  have hw : Region.wanted o (yielded ops a.tmps) = true := by simp [Region.wanted, hg]
  rw [if_pos hw]
  have H := h w.heap.size (w.alloc (.cells #[.int .u8 c] 5)) rfl rfl
  have hr : (execOp a.eval o).run Tryz.prog w = .ok (.value (.slice (some ⟨w.heap.size, 0, none⟩) 1 1)) (w.alloc (.cells #[.int .u8 c] 5)) := by
    unfold execOp
    simp only [hop, List.map_toArray, List.map_cons, List.map_nil, hx]
    go_simp
  unfold Oper.wp
  rw [hr]
  exact hK.out _ _ H.1 (fun _ => H.2)
theorem ready_app {ops : Array Oper} {Q : Exit → Act → World → Prop} {md : Region.Mode} {S : World → Prop} {fuel : Nat} {listed : Array Bool} {a : Act} {w : World} {i : Nat} {o : Oper} {rs : List Nat} (ho : ops[i]? = some o) (hg : o.guard = none) (s x : Operand)
    (hop : o.op = .call { callee := .builtin .append, args := #[s, x], argTypes := #[74, 74] }) (base : Nat) (v u : Value) (acc l : List Int)
    (hs' : a.eval s = v) (hown : w.ownsRow base 5 1 v acc.length (acc.map (Value.int .u8))) (hx : a.eval x = u) (hu : BytesAt w u l) (hn : acc.length + l.length ≤ 30000) (hbase : base ≤ w.heap.size)
    (h : ∀ v' w', w'.ownsRow base 5 1 v' (acc ++ l).length ((acc ++ l).map (Value.int .u8)) → w.grownBy w' v.ownBlock → S w' ∧ wpAnyH Tryz.prog md ops Q S fuel (listed.setIfInBounds i true) (a.put o.dst v') w')
    (hs : AllReadyH Tryz.prog md ops Q S fuel listed a w rs) : AllReadyH Tryz.prog md ops Q S fuel listed a w (i :: rs) := by
  refine AllReadyH.cons ho (fun K hK => ?_) hs
  have hw : Region.wanted o (yielded ops a.tmps) = true := by simp [Region.wanted, hg]
  rw [if_pos hw]
  obtain ⟨i0, hi, hz0, hz1, hz2⟩ := info_parts info5
  obtain ⟨ad, cap, rfl, hcap, _, hc⟩ := hu
  rcases ad with _ | ad
  · have h0 : l = [] := by
      cases l with
      | nil => rfl
      | cons c r => obtain ⟨g, off, ha, _⟩ := hc (by simp); cases ha
    subst h0
    have hc0 := hcap.2 rfl
    subst hc0
    have hrun := run_append_owned_none (P := Tryz.prog) (w := w) base 74 o.type 5 i0 1 Tryz.underlying74 hi v _ _ hown
    have hx' : a.eval x = .slice none 0 0 := hx
    have H := h v w (by simpa using hown) ⟨rfl, rfl, rfl, Nat.le_refl _, fun _ _ _ => rfl⟩
    unfold Oper.wp
    simp [execOp, hop, resolve, invoke, builtin, hs', hx', hrun, Result.andThen]
    exact hK.out _ _ H.1 (fun _ => H.2)
  · refine wp_append_own w s x 74 hop base 5 i0 (.int .u8 0) 1 1 Tryz.underlying74 hi hz0 hz1 hz2 rfl (by decide) v _ _ hs' hown ad l.length cap (l.map (Value.int .u8)) hx (by simp) ?_ ?_ ?_ ?_ hbase ?_
    · intro j y hy
      have hj : j < l.length := by
        rcases Nat.lt_or_ge j l.length with h | h
        · exact h
        · rw [List.getElem?_eq_none (by simpa using h)] at hy; cases hy
      obtain ⟨g, off, ha, _, hcell⟩ := hc (by omega)
      obtain rfl := Option.some.inj ha
      rw [add_at, hcell j hj]
      simp [hj] at hy
      rw [← hy]
    · intro y hy
      obtain ⟨c, _, rfl⟩ := List.mem_map.1 hy
      rfl
    · unfold maxLen; omega
    · omega
    · intro v' w' h1 h2 _
      have H := h v' w' (by simpa using h1) h2
      exact hK.out _ _ H.1 (fun _ => H.2)
def pcOf (m : List Int) : Pc := ⟨2, 0, 0, m, .slice none 0 0, 0, []⟩
theorem pcOf_ok {m : List Int} (w : World) (h : m.length = 8) (hb : M.Bytes m) : (pcOf m).Ok w := ⟨h, hb, by show (0 : Int) ≤ 0; decide, by show (0 : Int) < _; decide, by show (0 : Int) ≤ 0; decide, by show (0 : Int) < _; decide, by show (0 : Int) < _; decide, bytes_nil w⟩
theorem pcOf_enc (m : List Int) : (pcOf m).enc = ((M.text m).length : Int) :: M.text m := rfl
theorem built76_2' (b0 b1 b2 b3 b4 b5 b6 b7 : Int) : Tryz.prog.built 93 [(0, .int .i64 2), (3, .agg (nm [b0, b1, b2, b3, b4, b5, b6, b7]))] = some (pcOf [b0, b1, b2, b3, b4, b5, b6, b7]).cells.toArray := by kernel_rfl
theorem built76_2 {m : List Int} (h : m.length = 8) : Tryz.prog.built 93 [(0, .int .i64 2), (3, .agg (nm m))] = some (pcOf m).cells.toArray := by
  obtain ⟨b0, b1, b2, b3, b4, b5, b6, b7, rfl⟩ := eight h
  exact built76_2' b0 b1 b2 b3 b4 b5 b6 b7
set_option maxRecDepth 100000 in
set_option maxHeartbeats 2000000 in
theorem refOut4 (k : Ky) (w : World) (hk : k.Ok) (h4 : k.s = 4) : Calls Tryz.prog 59 #[.agg k.cells.toArray] w (GivesRow w (kenc k)) := by
  have S0 := Lib.hid (ws_one w k)
  have HK := Lib.hid hk
  have VC := Lib.hid (M.var_ten k.c hk.c0 (by have := hk.c1; omega))
  have VQ := Lib.hid (M.var_ten k.q hk.q0 (by have := hk.q1; omega))
  have TL := Lib.hid (show (M.text k.m).length ≤ 8 from hk.ml ▸ M.text_len k.m)
  have YS := Lib.hid (show M.Bytes [k.s] from fun y hy => by obtain rfl := List.mem_singleton.1 hy; exact ⟨hk.s0, hk.s1⟩)
  have YR := Lib.hid (show M.Bytes [k.r] from fun y hy => by obtain rfl := List.mem_singleton.1 hy; exact ⟨hk.r0, hk.r1⟩)
  have YC := Lib.hid (M.var_bytes k.c hk.c0)
  have YQ := Lib.hid (M.var_bytes k.q hk.q0)
  have YT := Lib.hid (show M.Bytes (((M.text k.m).length : Int) :: M.text k.m) from fun y hy => by
    rcases List.mem_cons.1 hy with rfl | hy
    · have := TL.out; omega
    · exact M.text_bytes hk.mb y hy)
  have q0 := hk.q0
  have x16 := wrap16 hk
  have x32 := wrap32 hk
  obtain ⟨A1, hA1⟩ : ∃ A, [k.s] ++ M.var k.c = A := ⟨_, rfl⟩
  obtain ⟨A3, hA3⟩ : ∃ A, A1 ++ (((M.text k.m).length : Int) :: M.text k.m) ++ [k.r] = A := ⟨_, rfl⟩
  have HA1 := Lib.hid hA1
  have HA3 := Lib.hid hA3
  have LA1 := Lib.hid (show A1.length ≤ 11 by rw [← hA1]; have := VC.out; simp; omega)
  have LA3 := Lib.hid (show A3.length ≤ 21 by rw [← hA3]; have := LA1.out; have := TL.out; simp; omega)
  clear hk hA1 hA3
  have Zh4 := Lib.hid h4
  clear h4
  go_enter Tryz.func59, Tryz.ntmps59
  go_wp2_with fail
  have S1 := Lib.hid S0.out.drew
  clear S0
  refine Code.wp_mono (Q := fun e a W => e = .normal ∧ ∃ v p6 p10, a = (⟨#[.agg k.cells.toArray, .pointer (some ⟨w.heap.size, 0, none⟩), .slice none 0 0, v, .pointer (some ⟨w.heap.size, 0, none⟩), .int .u8 k.s, p6, .pointer (some ⟨w.heap.size, 1, none⟩), .int .u16 k.c, .int .u64 k.c, p10, v, undef, undef, undef, undef, undef, undef, undef, undef, undef, undef, undef, undef, undef, undef, undef, undef, undef, undef, undef, undef, undef, undef, undef, undef], []⟩ : Act) ∧ WS w k W ∧ W.ownsRow (w.heap.size + 1) 5 1 v A1.length (A1.map (Value.int .u8))) ?_ ?_
  rotate_left
  ·
    refine wp_region_noPanic ?_
    refine wp_region_held_drew (S := WS w k) (by kernel_rfl) S1.out (fun _ => ?_)
    refine tkm 0 rfl S1.out ?_; try simp only [Act.put, stA, stZ, stS]
    refine tkv 1 _ rfl (fun W hW => by have c := hW.blk.cell (kc0 k); (go_simp; try with_reducible rfl)) S1.out ?_; try simp only [Act.put, stA, stZ, stS]
    refine tkm 3 rfl S1.out ?_; try simp only [Act.put, stA, stZ, stS]
    refine tkv 4 _ rfl (fun W hW => by have c := hW.blk.cell (kc1 k); (go_simp; try with_reducible rfl)) S1.out ?_; try simp only [Act.put, stA, stZ, stS]
    refine tkv 5 (.int .u64 k.c) rfl (fun W hW => (by go_simp)) S1.out ?_; try simp only [Act.put, stA, stZ, stS]
    refine rdy [2, 6] ?_
    refine ready_one (arR rfl) rfl (.tmp 5) rfl k.s rfl (fun g2 W2 e2 f2 => ⟨f2 ▸ S1.out.below (new_below _ _), ?_⟩) ?_
    ·
      have S2 := Lib.hid (show WS w k W2 from f2 ▸ S1.out.below (new_below _ _))
      have P2 := Lib.hid (show W2.ownsRow (w.heap.size + 1) 5 1 (.slice (some ⟨g2, 0, none⟩) 1 1) [k.s].length ([k.s].map (Value.int .u8)) from f2 ▸ e2 ▸ owns_one _ k.s (w.heap.size + 1) S1.out.lt)
      clear e2 f2
      try simp only [Act.put, stA, stZ, stS]
      refine rdy [6] ?_
      refine AllReadyH.cons (arR rfl) (fun K hK => ?_) ?_
      ·
        go_simp
        refine (refVar_is k.c _ HK.out.c0 (by have := HK.out.c1; omega)).mono ?_
        rintro e W3 ⟨v3, rfl, hv3, b3⟩
        have S3 := Lib.hid (S2.out.below b3)
        have V3 := Lib.hid hv3
        have P3 := Lib.hid (owns_below P2.out b3)
        clear b3
        clear hv3
        go_wp2_with fail
        refine hK.out _ _ S3.out (fun _ => ?_)
        clear hK K
        try simp only [Act.put, stA, stZ, stS]
        refine rdy [7] ?_
        refine ready_app (arR rfl) rfl (.tmp 6) (.tmp 10) rfl (w.heap.size + 1) _ _ [k.s] (M.var k.c) rfl P3.out rfl V3.out (by have := VC.out; show 1 + (M.var k.c).length ≤ 30000; omega) S3.out.lt (fun v9 W9 o9 g9 => ⟨S3.out.grown P3.out g9, ?_⟩) AllReadyH.nil
        have S9 := Lib.hid (S3.out.grown P3.out g9)
        try simp only [Act.put, stA, stZ, stS]
        refine tkm 8 rfl S9.out ?_; try simp only [Act.put, stA, stZ, stS]
        refine wpAnyH_done (by kernel_rfl) ?_ _
        exact ⟨rfl, v9, _, v3, rfl, S9.out, HA1.out ▸ o9⟩
      exact AllReadyH.nil
    refine AllReadyH.cons (arR rfl) (fun K hK => ?_) ?_
    ·
      go_simp
      refine (refVar_is k.c _ HK.out.c0 (by have := HK.out.c1; omega)).mono ?_
      rintro e W4 ⟨v4, rfl, hv4, b4⟩
      have S4 := Lib.hid (S1.out.below b4)
      have V4 := Lib.hid hv4
      clear b4
      clear hv4
      go_wp2_with fail
      refine hK.out _ _ S4.out (fun _ => ?_)
      clear hK K
      try simp only [Act.put, stA, stZ, stS]
      refine rdy [2] ?_
      refine ready_one (arR rfl) rfl (.tmp 5) rfl k.s rfl (fun g2 W5 e5 f5 => ⟨f5 ▸ S4.out.below (new_below _ _), ?_⟩) ?_
      ·
        have S5 := Lib.hid (show WS w k W5 from f5 ▸ S4.out.below (new_below _ _))
        have P5 := Lib.hid (show W5.ownsRow (w.heap.size + 1) 5 1 (.slice (some ⟨g2, 0, none⟩) 1 1) [k.s].length ([k.s].map (Value.int .u8)) from f5 ▸ e5 ▸ owns_one _ k.s (w.heap.size + 1) S4.out.lt)
        have V5 := Lib.hid (show BytesAt W5 v4 (M.var k.c) from f5 ▸ V4.out.below (new_below _ _))
        clear e5 f5
        try simp only [Act.put, stA, stZ, stS]
        refine rdy [7] ?_
        refine ready_app (arR rfl) rfl (.tmp 6) (.tmp 10) rfl (w.heap.size + 1) _ _ [k.s] (M.var k.c) rfl P5.out rfl V5.out (by have := VC.out; show 1 + (M.var k.c).length ≤ 30000; omega) S5.out.lt (fun v9 W9 o9 g9 => ⟨S5.out.grown P5.out g9, ?_⟩) AllReadyH.nil
        have S9 := Lib.hid (S5.out.grown P5.out g9)
        try simp only [Act.put, stA, stZ, stS]
        refine tkm 8 rfl S9.out ?_; try simp only [Act.put, stA, stZ, stS]
        refine wpAnyH_done (by kernel_rfl) ?_ _
        exact ⟨rfl, v9, _, v4, rfl, S9.out, HA1.out ▸ o9⟩
      exact AllReadyH.nil
    exact AllReadyH.nil
  rintro e a W1 ⟨rfl, v1, p6, p10, rfl, hS, hown⟩
  have S2 := Lib.hid hS
  have P2 := Lib.hid hown
  have c2 := hS.blk.cell (kc0 k)
  obtain ⟨a1, n1, rfl⟩ := owns_shape hown
  clear hS hown S1
  have h4 := Zh4.out
  go_wp2_with fail
  have E := Lib.hid (show kenc k = A1 by rw [kenc4 h4]; exact HA1.out)
  go_ret
  exact ⟨_, rfl, by rw [E.out]; exact P2.out, by rw [E.out]; exact (HA1.out ▸ YS.out.app YC.out), S2.out.lt, S2.out.bel⟩
set_option maxRecDepth 100000 in
set_option maxHeartbeats 2000000 in
theorem refOut2 (k : Ky) (w : World) (hk : k.Ok) (h4 : ¬ k.s = 4) (h1 : ¬ k.s = 1) : Calls Tryz.prog 59 #[.agg k.cells.toArray] w (GivesRow w (kenc k)) := by
  have S0 := Lib.hid (ws_one w k)
  have HK := Lib.hid hk
  have VC := Lib.hid (M.var_ten k.c hk.c0 (by have := hk.c1; omega))
  have VQ := Lib.hid (M.var_ten k.q hk.q0 (by have := hk.q1; omega))
  have TL := Lib.hid (show (M.text k.m).length ≤ 8 from hk.ml ▸ M.text_len k.m)
  have YS := Lib.hid (show M.Bytes [k.s] from fun y hy => by obtain rfl := List.mem_singleton.1 hy; exact ⟨hk.s0, hk.s1⟩)
  have YR := Lib.hid (show M.Bytes [k.r] from fun y hy => by obtain rfl := List.mem_singleton.1 hy; exact ⟨hk.r0, hk.r1⟩)
  have YC := Lib.hid (M.var_bytes k.c hk.c0)
  have YQ := Lib.hid (M.var_bytes k.q hk.q0)
  have YT := Lib.hid (show M.Bytes (((M.text k.m).length : Int) :: M.text k.m) from fun y hy => by
    rcases List.mem_cons.1 hy with rfl | hy
    · have := TL.out; omega
    · exact M.text_bytes hk.mb y hy)
  have q0 := hk.q0
  have x16 := wrap16 hk
  have x32 := wrap32 hk
  obtain ⟨A1, hA1⟩ : ∃ A, [k.s] ++ M.var k.c = A := ⟨_, rfl⟩
  obtain ⟨A3, hA3⟩ : ∃ A, A1 ++ (((M.text k.m).length : Int) :: M.text k.m) ++ [k.r] = A := ⟨_, rfl⟩
  have HA1 := Lib.hid hA1
  have HA3 := Lib.hid hA3
  have LA1 := Lib.hid (show A1.length ≤ 11 by rw [← hA1]; have := VC.out; simp; omega)
  have LA3 := Lib.hid (show A3.length ≤ 21 by rw [← hA3]; have := LA1.out; have := TL.out; simp; omega)
  clear hk hA1 hA3
  have Zh4 := Lib.hid h4
  clear h4
  have Zh1 := Lib.hid h1
  clear h1
  go_enter Tryz.func59, Tryz.ntmps59
  go_wp2_with fail
  have S1 := Lib.hid S0.out.drew
  clear S0
  refine Code.wp_mono (Q := fun e a W => e = .normal ∧ ∃ v p6 p10, a = (⟨#[.agg k.cells.toArray, .pointer (some ⟨w.heap.size, 0, none⟩), .slice none 0 0, v, .pointer (some ⟨w.heap.size, 0, none⟩), .int .u8 k.s, p6, .pointer (some ⟨w.heap.size, 1, none⟩), .int .u16 k.c, .int .u64 k.c, p10, v, undef, undef, undef, undef, undef, undef, undef, undef, undef, undef, undef, undef, undef, undef, undef, undef, undef, undef, undef, undef, undef, undef, undef, undef], []⟩ : Act) ∧ WS w k W ∧ W.ownsRow (w.heap.size + 1) 5 1 v A1.length (A1.map (Value.int .u8))) ?_ ?_
  rotate_left
  ·
    refine wp_region_noPanic ?_
    refine wp_region_held_drew (S := WS w k) (by kernel_rfl) S1.out (fun _ => ?_)
    refine tkm 0 rfl S1.out ?_; try simp only [Act.put, stA, stZ, stS]
    refine tkv 1 _ rfl (fun W hW => by have c := hW.blk.cell (kc0 k); (go_simp; try with_reducible rfl)) S1.out ?_; try simp only [Act.put, stA, stZ, stS]
    refine tkm 3 rfl S1.out ?_; try simp only [Act.put, stA, stZ, stS]
    refine tkv 4 _ rfl (fun W hW => by have c := hW.blk.cell (kc1 k); (go_simp; try with_reducible rfl)) S1.out ?_; try simp only [Act.put, stA, stZ, stS]
    refine tkv 5 (.int .u64 k.c) rfl (fun W hW => (by go_simp)) S1.out ?_; try simp only [Act.put, stA, stZ, stS]
    refine rdy [2, 6] ?_
    refine ready_one (arR rfl) rfl (.tmp 5) rfl k.s rfl (fun g2 W2 e2 f2 => ⟨f2 ▸ S1.out.below (new_below _ _), ?_⟩) ?_
    ·
      have S2 := Lib.hid (show WS w k W2 from f2 ▸ S1.out.below (new_below _ _))
      have P2 := Lib.hid (show W2.ownsRow (w.heap.size + 1) 5 1 (.slice (some ⟨g2, 0, none⟩) 1 1) [k.s].length ([k.s].map (Value.int .u8)) from f2 ▸ e2 ▸ owns_one _ k.s (w.heap.size + 1) S1.out.lt)
      clear e2 f2
      try simp only [Act.put, stA, stZ, stS]
      refine rdy [6] ?_
      refine AllReadyH.cons (arR rfl) (fun K hK => ?_) ?_
      ·
        go_simp
        refine (refVar_is k.c _ HK.out.c0 (by have := HK.out.c1; omega)).mono ?_
        rintro e W3 ⟨v3, rfl, hv3, b3⟩
        have S3 := Lib.hid (S2.out.below b3)
        have V3 := Lib.hid hv3
        have P3 := Lib.hid (owns_below P2.out b3)
        clear b3
        clear hv3
        go_wp2_with fail
        refine hK.out _ _ S3.out (fun _ => ?_)
        clear hK K
        try simp only [Act.put, stA, stZ, stS]
        refine rdy [7] ?_
        refine ready_app (arR rfl) rfl (.tmp 6) (.tmp 10) rfl (w.heap.size + 1) _ _ [k.s] (M.var k.c) rfl P3.out rfl V3.out (by have := VC.out; show 1 + (M.var k.c).length ≤ 30000; omega) S3.out.lt (fun v9 W9 o9 g9 => ⟨S3.out.grown P3.out g9, ?_⟩) AllReadyH.nil
        have S9 := Lib.hid (S3.out.grown P3.out g9)
        try simp only [Act.put, stA, stZ, stS]
        refine tkm 8 rfl S9.out ?_; try simp only [Act.put, stA, stZ, stS]
        refine wpAnyH_done (by kernel_rfl) ?_ _
        exact ⟨rfl, v9, _, v3, rfl, S9.out, HA1.out ▸ o9⟩
      exact AllReadyH.nil
    refine AllReadyH.cons (arR rfl) (fun K hK => ?_) ?_
    ·
      go_simp
      refine (refVar_is k.c _ HK.out.c0 (by have := HK.out.c1; omega)).mono ?_
      rintro e W4 ⟨v4, rfl, hv4, b4⟩
      have S4 := Lib.hid (S1.out.below b4)
      have V4 := Lib.hid hv4
      clear b4
      clear hv4
      go_wp2_with fail
      refine hK.out _ _ S4.out (fun _ => ?_)
      clear hK K
      try simp only [Act.put, stA, stZ, stS]
      refine rdy [2] ?_
      refine ready_one (arR rfl) rfl (.tmp 5) rfl k.s rfl (fun g2 W5 e5 f5 => ⟨f5 ▸ S4.out.below (new_below _ _), ?_⟩) ?_
      ·
        have S5 := Lib.hid (show WS w k W5 from f5 ▸ S4.out.below (new_below _ _))
        have P5 := Lib.hid (show W5.ownsRow (w.heap.size + 1) 5 1 (.slice (some ⟨g2, 0, none⟩) 1 1) [k.s].length ([k.s].map (Value.int .u8)) from f5 ▸ e5 ▸ owns_one _ k.s (w.heap.size + 1) S4.out.lt)
        have V5 := Lib.hid (show BytesAt W5 v4 (M.var k.c) from f5 ▸ V4.out.below (new_below _ _))
        clear e5 f5
        try simp only [Act.put, stA, stZ, stS]
        refine rdy [7] ?_
        refine ready_app (arR rfl) rfl (.tmp 6) (.tmp 10) rfl (w.heap.size + 1) _ _ [k.s] (M.var k.c) rfl P5.out rfl V5.out (by have := VC.out; show 1 + (M.var k.c).length ≤ 30000; omega) S5.out.lt (fun v9 W9 o9 g9 => ⟨S5.out.grown P5.out g9, ?_⟩) AllReadyH.nil
        have S9 := Lib.hid (S5.out.grown P5.out g9)
        try simp only [Act.put, stA, stZ, stS]
        refine tkm 8 rfl S9.out ?_; try simp only [Act.put, stA, stZ, stS]
        refine wpAnyH_done (by kernel_rfl) ?_ _
        exact ⟨rfl, v9, _, v4, rfl, S9.out, HA1.out ▸ o9⟩
      exact AllReadyH.nil
    exact AllReadyH.nil
  rintro e a W1 ⟨rfl, v1, p6, p10, rfl, hS, hown⟩
  have S2 := Lib.hid hS
  have P2 := Lib.hid hown
  have c2 := hS.blk.cell (kc0 k)
  obtain ⟨a1, n1, rfl⟩ := owns_shape hown
  clear hS hown S1
  have h4 := Zh4.out
  go_wp2_with fail
  have S3 := Lib.hid S2.out.drew
  have P3 := Lib.hid (show W1.drew.ownsRow (w.heap.size + 1) 5 1 (.slice a1 A1.length n1) A1.length (A1.map (Value.int .u8)) from P2.out)
  refine Code.wp_mono (Q := fun e a W => e = .normal ∧ ∃ v p20 p21 p24, a = (⟨#[.agg k.cells.toArray, .pointer (some ⟨w.heap.size, 0, none⟩), .slice none 0 0, v, .pointer (some ⟨w.heap.size, 0, none⟩), .int .u8 k.s, p6, .pointer (some ⟨w.heap.size, 1, none⟩), .int .u16 k.c, .int .u64 k.c, p10, (.slice a1 A1.length n1), .pointer (some ⟨w.heap.size, 0, none⟩), .int .u8 k.s, .bool false, undef, (.slice a1 A1.length n1), .pointer (some ⟨w.heap.size, 2, none⟩), .agg (k.m.map (Value.int .u8)).toArray, .agg (pcOf k.m).cells.toArray, p20, p21, .pointer (some ⟨w.heap.size, 10, none⟩), .int .u8 k.r, p24, v, undef, undef, undef, undef, undef, undef, undef, undef, undef, undef], []⟩ : Act) ∧ WS w k W ∧ W.ownsRow (w.heap.size + 1) 5 1 v A3.length (A3.map (Value.int .u8))) ?_ ?_
  rotate_left
  ·
    refine wp_region_noPanic ?_
    refine wp_region_held_drew (S := WS w k) (by kernel_rfl) S3.out (fun _ => ?_)
    refine tkm 0 rfl S3.out ?_; try simp only [Act.put, stA, stZ, stS]
    refine tkm 1 rfl S3.out ?_; try simp only [Act.put, stA, stZ, stS]
    refine tky 2 (.agg (k.m.map (Value.int .u8)).toArray) rfl (yieldsIf_load_mid (by rfl) 40 (.tmp 17) rfl w.heap.size 2 rfl (k.m.map (Value.int .u8)) _ (fun W hW => hW.blk.knm HK.out.ml) Tryz.underlying40 rfl (by rw [List.length_map, HK.out.ml]; exact size23)) S3.out ?_; try simp only [Act.put, stA, stZ, stS]
    refine tkv 3 (.agg (pcOf k.m).cells.toArray) rfl (fun W hW => exec_build 93 _ rfl [(0, .int .i64 2), (3, .agg (nm k.m))] rfl _ (built76_2 HK.out.ml)) S3.out ?_; try simp only [Act.put, stA, stZ, stS]
    refine tkm 6 rfl S3.out ?_; try simp only [Act.put, stA, stZ, stS]
    refine tkv 7 _ rfl (fun W hW => by have c := hW.blk.cell (kc10 HK.out.ml); (go_simp; try with_reducible rfl)) S3.out ?_; try simp only [Act.put, stA, stZ, stS]
    refine rdy [4, 8] ?_
    refine AllReadyH.cons (arR rfl) (fun K hK => ?_) ?_
    ·
      go_simp
      refine (out2 (pcOf k.m) _ (pcOf_ok _ HK.out.ml HK.out.mb) rfl).mono ?_
      rintro e W10 ⟨v10, rfl, hv10, b10⟩
      rw [pcOf_enc] at hv10
      have S10 := Lib.hid (S3.out.below b10)
      have V10 := Lib.hid hv10
      have P10 := Lib.hid (owns_below P3.out b10)
      clear b10
      clear hv10
      go_wp2_with fail
      refine hK.out _ _ S10.out (fun _ => ?_)
      clear hK K
      try simp only [Act.put, stA, stZ, stS]
      refine rdy [5, 8] ?_
      refine ready_app (arR rfl) rfl (.tmp 16) (.tmp 20) rfl (w.heap.size + 1) _ _ A1 (((M.text k.m).length : Int) :: M.text k.m) rfl P10.out rfl V10.out (by have := LA1.out; have := TL.out; simp; omega) S10.out.lt (fun v11 W11 o11 g11 => ⟨S10.out.grown P10.out g11, ?_⟩) ?_
      ·
        have S11 := Lib.hid (S10.out.grown P10.out g11)
        have P11 := Lib.hid o11
        clear o11 g11
        try simp only [Act.put, stA, stZ, stS]
        refine rdy [8] ?_
        refine ready_one (arR rfl) rfl (.tmp 23) rfl k.r rfl (fun g8 W12 e12 f12 => ⟨f12 ▸ S11.out.below (new_below _ _), ?_⟩) ?_
        ·
          have S12 := Lib.hid (show WS w k W12 from f12 ▸ S11.out.below (new_below _ _))
          have X12 := Lib.hid (show BytesIn (some g8) W12 (.slice (some ⟨g8, 0, none⟩) 1 1) [k.r] from f12 ▸ e12 ▸ one_in _ k.r HK.out.r0 HK.out.r1)
          have P12 := Lib.hid (show W12.ownsRow (w.heap.size + 1) 5 1 v11 (A1 ++ (((M.text k.m).length : Int) :: M.text k.m)).length ((A1 ++ (((M.text k.m).length : Int) :: M.text k.m)).map (Value.int .u8)) from f12 ▸ owns_below P11.out (new_below _ _))
          clear e12 f12
          try simp only [Act.put, stA, stZ, stS]
          refine rdy [9] ?_
          refine ready_app (arR rfl) rfl (.tmp 21) (.tmp 24) rfl (w.heap.size + 1) _ _ (A1 ++ (((M.text k.m).length : Int) :: M.text k.m)) [k.r] rfl P12.out rfl X12.out.1 (by have := LA1.out; have := TL.out; simp; omega) S12.out.lt (fun v9 W9 o9 g9 => ⟨S12.out.grown P12.out g9, ?_⟩) AllReadyH.nil
          have S9 := Lib.hid (S12.out.grown P12.out g9)
          try simp only [Act.put, stA, stZ, stS]
          refine tkm 10 rfl S9.out ?_; try simp only [Act.put, stA, stZ, stS]
          refine wpAnyH_done (by kernel_rfl) ?_ _
          exact ⟨rfl, v9, v10, v11, _, rfl, S9.out, HA3.out ▸ o9⟩
        exact AllReadyH.nil
      refine ready_one (arR rfl) rfl (.tmp 23) rfl k.r rfl (fun g8 W13 e13 f13 => ⟨f13 ▸ S10.out.below (new_below _ _), ?_⟩) ?_
      ·
        have S13 := Lib.hid (show WS w k W13 from f13 ▸ S10.out.below (new_below _ _))
        have X13 := Lib.hid (show BytesIn (some g8) W13 (.slice (some ⟨g8, 0, none⟩) 1 1) [k.r] from f13 ▸ e13 ▸ one_in _ k.r HK.out.r0 HK.out.r1)
        have P13 := Lib.hid (show W13.ownsRow (w.heap.size + 1) 5 1 (Value.slice a1 A1.length n1) A1.length (A1.map (Value.int .u8)) from f13 ▸ owns_below P10.out (new_below _ _))
        have V13 := Lib.hid (show BytesAt W13 v10 (((M.text k.m).length : Int) :: M.text k.m) from f13 ▸ V10.out.below (new_below _ _))
        have NE := Lib.hid (show (Value.slice a1 A1.length n1).ownBlock ≠ some g8 from fun e => by have := (P10.out.lt _ e).2; omega)
        clear e13 f13
        try simp only [Act.put, stA, stZ, stS]
        refine rdy [5] ?_
        refine ready_app (arR rfl) rfl (.tmp 16) (.tmp 20) rfl (w.heap.size + 1) _ _ A1 (((M.text k.m).length : Int) :: M.text k.m) rfl P13.out rfl V13.out (by have := LA1.out; have := TL.out; simp; omega) S13.out.lt (fun v14 W14 o14 g14 => ⟨S13.out.grown P13.out g14, ?_⟩) ?_
        ·
          have S14 := Lib.hid (S13.out.grown P13.out g14)
          have P14 := Lib.hid o14
          have X14 := Lib.hid (X13.out.grown g14 NE.out)
          clear o14 g14
          try simp only [Act.put, stA, stZ, stS]
          refine rdy [9] ?_
          refine ready_app (arR rfl) rfl (.tmp 21) (.tmp 24) rfl (w.heap.size + 1) _ _ (A1 ++ (((M.text k.m).length : Int) :: M.text k.m)) [k.r] rfl P14.out rfl X14.out.1 (by have := LA1.out; have := TL.out; simp; omega) S14.out.lt (fun v9 W9 o9 g9 => ⟨S14.out.grown P14.out g9, ?_⟩) AllReadyH.nil
          have S9 := Lib.hid (S14.out.grown P14.out g9)
          try simp only [Act.put, stA, stZ, stS]
          refine tkm 10 rfl S9.out ?_; try simp only [Act.put, stA, stZ, stS]
          refine wpAnyH_done (by kernel_rfl) ?_ _
          exact ⟨rfl, v9, v10, v14, _, rfl, S9.out, HA3.out ▸ o9⟩
        exact AllReadyH.nil
      exact AllReadyH.nil
    refine ready_one (arR rfl) rfl (.tmp 23) rfl k.r rfl (fun g8 W15 e15 f15 => ⟨f15 ▸ S3.out.below (new_below _ _), ?_⟩) ?_
    ·
      have S15 := Lib.hid (show WS w k W15 from f15 ▸ S3.out.below (new_below _ _))
      have X15 := Lib.hid (show BytesIn (some g8) W15 (.slice (some ⟨g8, 0, none⟩) 1 1) [k.r] from f15 ▸ e15 ▸ one_in _ k.r HK.out.r0 HK.out.r1)
      have P15 := Lib.hid (show W15.ownsRow (w.heap.size + 1) 5 1 (Value.slice a1 A1.length n1) A1.length (A1.map (Value.int .u8)) from f15 ▸ owns_below P3.out (new_below _ _))
      have NE := Lib.hid (show (Value.slice a1 A1.length n1).ownBlock ≠ some g8 from fun e => by have := (P3.out.lt _ e).2; omega)
      clear e15 f15
      try simp only [Act.put, stA, stZ, stS]
      refine rdy [4] ?_
      refine AllReadyH.cons (arR rfl) (fun K hK => ?_) ?_
      ·
        go_simp
        refine (out2 (pcOf k.m) _ (pcOf_ok _ HK.out.ml HK.out.mb) rfl).mono ?_
        rintro e W16 ⟨v16, rfl, hv16, b16⟩
        rw [pcOf_enc] at hv16
        have S16 := Lib.hid (S15.out.below b16)
        have V16 := Lib.hid hv16
        have P16 := Lib.hid (owns_below P15.out b16)
        have X16 := Lib.hid (X15.out.below b16)
        clear b16
        clear hv16
        go_wp2_with fail
        refine hK.out _ _ S16.out (fun _ => ?_)
        clear hK K
        try simp only [Act.put, stA, stZ, stS]
        refine rdy [5] ?_
        refine ready_app (arR rfl) rfl (.tmp 16) (.tmp 20) rfl (w.heap.size + 1) _ _ A1 (((M.text k.m).length : Int) :: M.text k.m) rfl P16.out rfl V16.out (by have := LA1.out; have := TL.out; simp; omega) S16.out.lt (fun v17 W17 o17 g17 => ⟨S16.out.grown P16.out g17, ?_⟩) ?_
        ·
          have S17 := Lib.hid (S16.out.grown P16.out g17)
          have P17 := Lib.hid o17
          have X17 := Lib.hid (X16.out.grown g17 NE.out)
          clear o17 g17
          try simp only [Act.put, stA, stZ, stS]
          refine rdy [9] ?_
          refine ready_app (arR rfl) rfl (.tmp 21) (.tmp 24) rfl (w.heap.size + 1) _ _ (A1 ++ (((M.text k.m).length : Int) :: M.text k.m)) [k.r] rfl P17.out rfl X17.out.1 (by have := LA1.out; have := TL.out; simp; omega) S17.out.lt (fun v9 W9 o9 g9 => ⟨S17.out.grown P17.out g9, ?_⟩) AllReadyH.nil
          have S9 := Lib.hid (S17.out.grown P17.out g9)
          try simp only [Act.put, stA, stZ, stS]
          refine tkm 10 rfl S9.out ?_; try simp only [Act.put, stA, stZ, stS]
          refine wpAnyH_done (by kernel_rfl) ?_ _
          exact ⟨rfl, v9, v16, v17, _, rfl, S9.out, HA3.out ▸ o9⟩
        exact AllReadyH.nil
      exact AllReadyH.nil
    exact AllReadyH.nil
  rintro e a W2 ⟨rfl, v2, p20, p21, p24, rfl, hS, hown⟩
  have S5 := Lib.hid hS
  have P5 := Lib.hid hown
  have c5 := hS.blk.cell (kc0 k)
  have c6 := hS.blk.cell (kc11 HK.out.ml)
  obtain ⟨a2, n2, rfl⟩ := owns_shape hown
  clear hS hown S3 P3 c2
  have h1 := Zh1.out
  go_wp2_with fail
  have E := Lib.hid (show kenc k = A3 by rw [kenc2 h4 h1, ← HA3.out, ← HA1.out]; simp only [List.append_assoc])
  go_ret
  exact ⟨_, rfl, by rw [E.out]; exact P5.out, by rw [E.out]; exact (HA3.out ▸ ((HA1.out ▸ YS.out.app YC.out : M.Bytes A1).app YT.out).app YR.out), S5.out.lt, S5.out.bel⟩
set_option maxRecDepth 100000 in
set_option maxHeartbeats 2000000 in
theorem refOut1 (k : Ky) (w : World) (hk : k.Ok) (h4 : ¬ k.s = 4) (h1 : k.s = 1) : Calls Tryz.prog 59 #[.agg k.cells.toArray] w (GivesRow w (kenc k)) := by
  have S0 := Lib.hid (ws_one w k)
  have HK := Lib.hid hk
  have VC := Lib.hid (M.var_ten k.c hk.c0 (by have := hk.c1; omega))
  have VQ := Lib.hid (M.var_ten k.q hk.q0 (by have := hk.q1; omega))
  have TL := Lib.hid (show (M.text k.m).length ≤ 8 from hk.ml ▸ M.text_len k.m)
  have YS := Lib.hid (show M.Bytes [k.s] from fun y hy => by obtain rfl := List.mem_singleton.1 hy; exact ⟨hk.s0, hk.s1⟩)
  have YR := Lib.hid (show M.Bytes [k.r] from fun y hy => by obtain rfl := List.mem_singleton.1 hy; exact ⟨hk.r0, hk.r1⟩)
  have YC := Lib.hid (M.var_bytes k.c hk.c0)
  have YQ := Lib.hid (M.var_bytes k.q hk.q0)
  have YT := Lib.hid (show M.Bytes (((M.text k.m).length : Int) :: M.text k.m) from fun y hy => by
    rcases List.mem_cons.1 hy with rfl | hy
    · have := TL.out; omega
    · exact M.text_bytes hk.mb y hy)
  have q0 := hk.q0
  have x16 := wrap16 hk
  have x32 := wrap32 hk
  obtain ⟨A1, hA1⟩ : ∃ A, [k.s] ++ M.var k.c = A := ⟨_, rfl⟩
  obtain ⟨A3, hA3⟩ : ∃ A, A1 ++ (((M.text k.m).length : Int) :: M.text k.m) ++ [k.r] = A := ⟨_, rfl⟩
  have HA1 := Lib.hid hA1
  have HA3 := Lib.hid hA3
  have LA1 := Lib.hid (show A1.length ≤ 11 by rw [← hA1]; have := VC.out; simp; omega)
  have LA3 := Lib.hid (show A3.length ≤ 21 by rw [← hA3]; have := LA1.out; have := TL.out; simp; omega)
  clear hk hA1 hA3
  have Zh4 := Lib.hid h4
  clear h4
  have Zh1 := Lib.hid h1
  clear h1
  go_enter Tryz.func59, Tryz.ntmps59
  go_wp2_with fail
  have S1 := Lib.hid S0.out.drew
  clear S0
  refine Code.wp_mono (Q := fun e a W => e = .normal ∧ ∃ v p6 p10, a = (⟨#[.agg k.cells.toArray, .pointer (some ⟨w.heap.size, 0, none⟩), .slice none 0 0, v, .pointer (some ⟨w.heap.size, 0, none⟩), .int .u8 k.s, p6, .pointer (some ⟨w.heap.size, 1, none⟩), .int .u16 k.c, .int .u64 k.c, p10, v, undef, undef, undef, undef, undef, undef, undef, undef, undef, undef, undef, undef, undef, undef, undef, undef, undef, undef, undef, undef, undef, undef, undef, undef], []⟩ : Act) ∧ WS w k W ∧ W.ownsRow (w.heap.size + 1) 5 1 v A1.length (A1.map (Value.int .u8))) ?_ ?_
  rotate_left
  ·
    refine wp_region_noPanic ?_
    refine wp_region_held_drew (S := WS w k) (by kernel_rfl) S1.out (fun _ => ?_)
    refine tkm 0 rfl S1.out ?_; try simp only [Act.put, stA, stZ, stS]
    refine tkv 1 _ rfl (fun W hW => by have c := hW.blk.cell (kc0 k); (go_simp; try with_reducible rfl)) S1.out ?_; try simp only [Act.put, stA, stZ, stS]
    refine tkm 3 rfl S1.out ?_; try simp only [Act.put, stA, stZ, stS]
    refine tkv 4 _ rfl (fun W hW => by have c := hW.blk.cell (kc1 k); (go_simp; try with_reducible rfl)) S1.out ?_; try simp only [Act.put, stA, stZ, stS]
    refine tkv 5 (.int .u64 k.c) rfl (fun W hW => (by go_simp)) S1.out ?_; try simp only [Act.put, stA, stZ, stS]
    refine rdy [2, 6] ?_
    refine ready_one (arR rfl) rfl (.tmp 5) rfl k.s rfl (fun g2 W2 e2 f2 => ⟨f2 ▸ S1.out.below (new_below _ _), ?_⟩) ?_
    ·
      have S2 := Lib.hid (show WS w k W2 from f2 ▸ S1.out.below (new_below _ _))
      have P2 := Lib.hid (show W2.ownsRow (w.heap.size + 1) 5 1 (.slice (some ⟨g2, 0, none⟩) 1 1) [k.s].length ([k.s].map (Value.int .u8)) from f2 ▸ e2 ▸ owns_one _ k.s (w.heap.size + 1) S1.out.lt)
      clear e2 f2
      try simp only [Act.put, stA, stZ, stS]
      refine rdy [6] ?_
      refine AllReadyH.cons (arR rfl) (fun K hK => ?_) ?_
      ·
        go_simp
        refine (refVar_is k.c _ HK.out.c0 (by have := HK.out.c1; omega)).mono ?_
        rintro e W3 ⟨v3, rfl, hv3, b3⟩
        have S3 := Lib.hid (S2.out.below b3)
        have V3 := Lib.hid hv3
        have P3 := Lib.hid (owns_below P2.out b3)
        clear b3
        clear hv3
        go_wp2_with fail
        refine hK.out _ _ S3.out (fun _ => ?_)
        clear hK K
        try simp only [Act.put, stA, stZ, stS]
        refine rdy [7] ?_
        refine ready_app (arR rfl) rfl (.tmp 6) (.tmp 10) rfl (w.heap.size + 1) _ _ [k.s] (M.var k.c) rfl P3.out rfl V3.out (by have := VC.out; show 1 + (M.var k.c).length ≤ 30000; omega) S3.out.lt (fun v9 W9 o9 g9 => ⟨S3.out.grown P3.out g9, ?_⟩) AllReadyH.nil
        have S9 := Lib.hid (S3.out.grown P3.out g9)
        try simp only [Act.put, stA, stZ, stS]
        refine tkm 8 rfl S9.out ?_; try simp only [Act.put, stA, stZ, stS]
        refine wpAnyH_done (by kernel_rfl) ?_ _
        exact ⟨rfl, v9, _, v3, rfl, S9.out, HA1.out ▸ o9⟩
      exact AllReadyH.nil
    refine AllReadyH.cons (arR rfl) (fun K hK => ?_) ?_
    ·
      go_simp
      refine (refVar_is k.c _ HK.out.c0 (by have := HK.out.c1; omega)).mono ?_
      rintro e W4 ⟨v4, rfl, hv4, b4⟩
      have S4 := Lib.hid (S1.out.below b4)
      have V4 := Lib.hid hv4
      clear b4
      clear hv4
      go_wp2_with fail
      refine hK.out _ _ S4.out (fun _ => ?_)
      clear hK K
      try simp only [Act.put, stA, stZ, stS]
      refine rdy [2] ?_
      refine ready_one (arR rfl) rfl (.tmp 5) rfl k.s rfl (fun g2 W5 e5 f5 => ⟨f5 ▸ S4.out.below (new_below _ _), ?_⟩) ?_
      ·
        have S5 := Lib.hid (show WS w k W5 from f5 ▸ S4.out.below (new_below _ _))
        have P5 := Lib.hid (show W5.ownsRow (w.heap.size + 1) 5 1 (.slice (some ⟨g2, 0, none⟩) 1 1) [k.s].length ([k.s].map (Value.int .u8)) from f5 ▸ e5 ▸ owns_one _ k.s (w.heap.size + 1) S4.out.lt)
        have V5 := Lib.hid (show BytesAt W5 v4 (M.var k.c) from f5 ▸ V4.out.below (new_below _ _))
        clear e5 f5
        try simp only [Act.put, stA, stZ, stS]
        refine rdy [7] ?_
        refine ready_app (arR rfl) rfl (.tmp 6) (.tmp 10) rfl (w.heap.size + 1) _ _ [k.s] (M.var k.c) rfl P5.out rfl V5.out (by have := VC.out; show 1 + (M.var k.c).length ≤ 30000; omega) S5.out.lt (fun v9 W9 o9 g9 => ⟨S5.out.grown P5.out g9, ?_⟩) AllReadyH.nil
        have S9 := Lib.hid (S5.out.grown P5.out g9)
        try simp only [Act.put, stA, stZ, stS]
        refine tkm 8 rfl S9.out ?_; try simp only [Act.put, stA, stZ, stS]
        refine wpAnyH_done (by kernel_rfl) ?_ _
        exact ⟨rfl, v9, _, v4, rfl, S9.out, HA1.out ▸ o9⟩
      exact AllReadyH.nil
    exact AllReadyH.nil
  rintro e a W1 ⟨rfl, v1, p6, p10, rfl, hS, hown⟩
  have S2 := Lib.hid hS
  have P2 := Lib.hid hown
  have c2 := hS.blk.cell (kc0 k)
  obtain ⟨a1, n1, rfl⟩ := owns_shape hown
  clear hS hown S1
  have h4 := Zh4.out
  go_wp2_with fail
  have S3 := Lib.hid S2.out.drew
  have P3 := Lib.hid (show W1.drew.ownsRow (w.heap.size + 1) 5 1 (.slice a1 A1.length n1) A1.length (A1.map (Value.int .u8)) from P2.out)
  refine Code.wp_mono (Q := fun e a W => e = .normal ∧ ∃ v p20 p21 p24, a = (⟨#[.agg k.cells.toArray, .pointer (some ⟨w.heap.size, 0, none⟩), .slice none 0 0, v, .pointer (some ⟨w.heap.size, 0, none⟩), .int .u8 k.s, p6, .pointer (some ⟨w.heap.size, 1, none⟩), .int .u16 k.c, .int .u64 k.c, p10, (.slice a1 A1.length n1), .pointer (some ⟨w.heap.size, 0, none⟩), .int .u8 k.s, .bool false, undef, (.slice a1 A1.length n1), .pointer (some ⟨w.heap.size, 2, none⟩), .agg (k.m.map (Value.int .u8)).toArray, .agg (pcOf k.m).cells.toArray, p20, p21, .pointer (some ⟨w.heap.size, 10, none⟩), .int .u8 k.r, p24, v, undef, undef, undef, undef, undef, undef, undef, undef, undef, undef], []⟩ : Act) ∧ WS w k W ∧ W.ownsRow (w.heap.size + 1) 5 1 v A3.length (A3.map (Value.int .u8))) ?_ ?_
  rotate_left
  ·
    refine wp_region_noPanic ?_
    refine wp_region_held_drew (S := WS w k) (by kernel_rfl) S3.out (fun _ => ?_)
    refine tkm 0 rfl S3.out ?_; try simp only [Act.put, stA, stZ, stS]
    refine tkm 1 rfl S3.out ?_; try simp only [Act.put, stA, stZ, stS]
    refine tky 2 (.agg (k.m.map (Value.int .u8)).toArray) rfl (yieldsIf_load_mid (by rfl) 40 (.tmp 17) rfl w.heap.size 2 rfl (k.m.map (Value.int .u8)) _ (fun W hW => hW.blk.knm HK.out.ml) Tryz.underlying40 rfl (by rw [List.length_map, HK.out.ml]; exact size23)) S3.out ?_; try simp only [Act.put, stA, stZ, stS]
    refine tkv 3 (.agg (pcOf k.m).cells.toArray) rfl (fun W hW => exec_build 93 _ rfl [(0, .int .i64 2), (3, .agg (nm k.m))] rfl _ (built76_2 HK.out.ml)) S3.out ?_; try simp only [Act.put, stA, stZ, stS]
    refine tkm 6 rfl S3.out ?_; try simp only [Act.put, stA, stZ, stS]
    refine tkv 7 _ rfl (fun W hW => by have c := hW.blk.cell (kc10 HK.out.ml); (go_simp; try with_reducible rfl)) S3.out ?_; try simp only [Act.put, stA, stZ, stS]
    refine rdy [4, 8] ?_
    refine AllReadyH.cons (arR rfl) (fun K hK => ?_) ?_
    ·
      go_simp
      refine (out2 (pcOf k.m) _ (pcOf_ok _ HK.out.ml HK.out.mb) rfl).mono ?_
      rintro e W10 ⟨v10, rfl, hv10, b10⟩
      rw [pcOf_enc] at hv10
      have S10 := Lib.hid (S3.out.below b10)
      have V10 := Lib.hid hv10
      have P10 := Lib.hid (owns_below P3.out b10)
      clear b10
      clear hv10
      go_wp2_with fail
      refine hK.out _ _ S10.out (fun _ => ?_)
      clear hK K
      try simp only [Act.put, stA, stZ, stS]
      refine rdy [5, 8] ?_
      refine ready_app (arR rfl) rfl (.tmp 16) (.tmp 20) rfl (w.heap.size + 1) _ _ A1 (((M.text k.m).length : Int) :: M.text k.m) rfl P10.out rfl V10.out (by have := LA1.out; have := TL.out; simp; omega) S10.out.lt (fun v11 W11 o11 g11 => ⟨S10.out.grown P10.out g11, ?_⟩) ?_
      ·
        have S11 := Lib.hid (S10.out.grown P10.out g11)
        have P11 := Lib.hid o11
        clear o11 g11
        try simp only [Act.put, stA, stZ, stS]
        refine rdy [8] ?_
        refine ready_one (arR rfl) rfl (.tmp 23) rfl k.r rfl (fun g8 W12 e12 f12 => ⟨f12 ▸ S11.out.below (new_below _ _), ?_⟩) ?_
        ·
          have S12 := Lib.hid (show WS w k W12 from f12 ▸ S11.out.below (new_below _ _))
          have X12 := Lib.hid (show BytesIn (some g8) W12 (.slice (some ⟨g8, 0, none⟩) 1 1) [k.r] from f12 ▸ e12 ▸ one_in _ k.r HK.out.r0 HK.out.r1)
          have P12 := Lib.hid (show W12.ownsRow (w.heap.size + 1) 5 1 v11 (A1 ++ (((M.text k.m).length : Int) :: M.text k.m)).length ((A1 ++ (((M.text k.m).length : Int) :: M.text k.m)).map (Value.int .u8)) from f12 ▸ owns_below P11.out (new_below _ _))
          clear e12 f12
          try simp only [Act.put, stA, stZ, stS]
          refine rdy [9] ?_
          refine ready_app (arR rfl) rfl (.tmp 21) (.tmp 24) rfl (w.heap.size + 1) _ _ (A1 ++ (((M.text k.m).length : Int) :: M.text k.m)) [k.r] rfl P12.out rfl X12.out.1 (by have := LA1.out; have := TL.out; simp; omega) S12.out.lt (fun v9 W9 o9 g9 => ⟨S12.out.grown P12.out g9, ?_⟩) AllReadyH.nil
          have S9 := Lib.hid (S12.out.grown P12.out g9)
          try simp only [Act.put, stA, stZ, stS]
          refine tkm 10 rfl S9.out ?_; try simp only [Act.put, stA, stZ, stS]
          refine wpAnyH_done (by kernel_rfl) ?_ _
          exact ⟨rfl, v9, v10, v11, _, rfl, S9.out, HA3.out ▸ o9⟩
        exact AllReadyH.nil
      refine ready_one (arR rfl) rfl (.tmp 23) rfl k.r rfl (fun g8 W13 e13 f13 => ⟨f13 ▸ S10.out.below (new_below _ _), ?_⟩) ?_
      ·
        have S13 := Lib.hid (show WS w k W13 from f13 ▸ S10.out.below (new_below _ _))
        have X13 := Lib.hid (show BytesIn (some g8) W13 (.slice (some ⟨g8, 0, none⟩) 1 1) [k.r] from f13 ▸ e13 ▸ one_in _ k.r HK.out.r0 HK.out.r1)
        have P13 := Lib.hid (show W13.ownsRow (w.heap.size + 1) 5 1 (Value.slice a1 A1.length n1) A1.length (A1.map (Value.int .u8)) from f13 ▸ owns_below P10.out (new_below _ _))
        have V13 := Lib.hid (show BytesAt W13 v10 (((M.text k.m).length : Int) :: M.text k.m) from f13 ▸ V10.out.below (new_below _ _))
        have NE := Lib.hid (show (Value.slice a1 A1.length n1).ownBlock ≠ some g8 from fun e => by have := (P10.out.lt _ e).2; omega)
        clear e13 f13
        try simp only [Act.put, stA, stZ, stS]
        refine rdy [5] ?_
        refine ready_app (arR rfl) rfl (.tmp 16) (.tmp 20) rfl (w.heap.size + 1) _ _ A1 (((M.text k.m).length : Int) :: M.text k.m) rfl P13.out rfl V13.out (by have := LA1.out; have := TL.out; simp; omega) S13.out.lt (fun v14 W14 o14 g14 => ⟨S13.out.grown P13.out g14, ?_⟩) ?_
        ·
          have S14 := Lib.hid (S13.out.grown P13.out g14)
          have P14 := Lib.hid o14
          have X14 := Lib.hid (X13.out.grown g14 NE.out)
          clear o14 g14
          try simp only [Act.put, stA, stZ, stS]
          refine rdy [9] ?_
          refine ready_app (arR rfl) rfl (.tmp 21) (.tmp 24) rfl (w.heap.size + 1) _ _ (A1 ++ (((M.text k.m).length : Int) :: M.text k.m)) [k.r] rfl P14.out rfl X14.out.1 (by have := LA1.out; have := TL.out; simp; omega) S14.out.lt (fun v9 W9 o9 g9 => ⟨S14.out.grown P14.out g9, ?_⟩) AllReadyH.nil
          have S9 := Lib.hid (S14.out.grown P14.out g9)
          try simp only [Act.put, stA, stZ, stS]
          refine tkm 10 rfl S9.out ?_; try simp only [Act.put, stA, stZ, stS]
          refine wpAnyH_done (by kernel_rfl) ?_ _
          exact ⟨rfl, v9, v10, v14, _, rfl, S9.out, HA3.out ▸ o9⟩
        exact AllReadyH.nil
      exact AllReadyH.nil
    refine ready_one (arR rfl) rfl (.tmp 23) rfl k.r rfl (fun g8 W15 e15 f15 => ⟨f15 ▸ S3.out.below (new_below _ _), ?_⟩) ?_
    ·
      have S15 := Lib.hid (show WS w k W15 from f15 ▸ S3.out.below (new_below _ _))
      have X15 := Lib.hid (show BytesIn (some g8) W15 (.slice (some ⟨g8, 0, none⟩) 1 1) [k.r] from f15 ▸ e15 ▸ one_in _ k.r HK.out.r0 HK.out.r1)
      have P15 := Lib.hid (show W15.ownsRow (w.heap.size + 1) 5 1 (Value.slice a1 A1.length n1) A1.length (A1.map (Value.int .u8)) from f15 ▸ owns_below P3.out (new_below _ _))
      have NE := Lib.hid (show (Value.slice a1 A1.length n1).ownBlock ≠ some g8 from fun e => by have := (P3.out.lt _ e).2; omega)
      clear e15 f15
      try simp only [Act.put, stA, stZ, stS]
      refine rdy [4] ?_
      refine AllReadyH.cons (arR rfl) (fun K hK => ?_) ?_
      ·
        go_simp
        refine (out2 (pcOf k.m) _ (pcOf_ok _ HK.out.ml HK.out.mb) rfl).mono ?_
        rintro e W16 ⟨v16, rfl, hv16, b16⟩
        rw [pcOf_enc] at hv16
        have S16 := Lib.hid (S15.out.below b16)
        have V16 := Lib.hid hv16
        have P16 := Lib.hid (owns_below P15.out b16)
        have X16 := Lib.hid (X15.out.below b16)
        clear b16
        clear hv16
        go_wp2_with fail
        refine hK.out _ _ S16.out (fun _ => ?_)
        clear hK K
        try simp only [Act.put, stA, stZ, stS]
        refine rdy [5] ?_
        refine ready_app (arR rfl) rfl (.tmp 16) (.tmp 20) rfl (w.heap.size + 1) _ _ A1 (((M.text k.m).length : Int) :: M.text k.m) rfl P16.out rfl V16.out (by have := LA1.out; have := TL.out; simp; omega) S16.out.lt (fun v17 W17 o17 g17 => ⟨S16.out.grown P16.out g17, ?_⟩) ?_
        ·
          have S17 := Lib.hid (S16.out.grown P16.out g17)
          have P17 := Lib.hid o17
          have X17 := Lib.hid (X16.out.grown g17 NE.out)
          clear o17 g17
          try simp only [Act.put, stA, stZ, stS]
          refine rdy [9] ?_
          refine ready_app (arR rfl) rfl (.tmp 21) (.tmp 24) rfl (w.heap.size + 1) _ _ (A1 ++ (((M.text k.m).length : Int) :: M.text k.m)) [k.r] rfl P17.out rfl X17.out.1 (by have := LA1.out; have := TL.out; simp; omega) S17.out.lt (fun v9 W9 o9 g9 => ⟨S17.out.grown P17.out g9, ?_⟩) AllReadyH.nil
          have S9 := Lib.hid (S17.out.grown P17.out g9)
          try simp only [Act.put, stA, stZ, stS]
          refine tkm 10 rfl S9.out ?_; try simp only [Act.put, stA, stZ, stS]
          refine wpAnyH_done (by kernel_rfl) ?_ _
          exact ⟨rfl, v9, v16, v17, _, rfl, S9.out, HA3.out ▸ o9⟩
        exact AllReadyH.nil
      exact AllReadyH.nil
    exact AllReadyH.nil
  rintro e a W2 ⟨rfl, v2, p20, p21, p24, rfl, hS, hown⟩
  have S5 := Lib.hid hS
  have P5 := Lib.hid hown
  have c5 := hS.blk.cell (kc0 k)
  have c6 := hS.blk.cell (kc11 HK.out.ml)
  obtain ⟨a2, n2, rfl⟩ := owns_shape hown
  clear hS hown S3 P3 c2
  have h1 := Zh1.out
  go_wp2_with fail
  refine (refVar_is k.q _ q0 (by have := HK.out.q1; omega)).mono ?_
  rintro e W3 ⟨v3, rfl, hv3, b3⟩
  have S6 := Lib.hid (S5.out.below b3)
  have P6 := Lib.hid (owns_below P5.out b3)
  have V6 := Lib.hid hv3
  clear hv3 b3
  go_wp2_with ((at_builtin; refine app_bytesK _ rfl (.tmp 29) (.tmp 33) rfl (w.heap.size + 1) _ _ A3 (M.var k.q) rfl P6.out rfl V6.out (by have := LA3.out; have := VQ.out; omega) S6.out.lt ?_; intro v7 W7 hown7 hbel7 hk7; have B67 := Lib.hid hbel7.size; have P7 := Lib.hid hown7; have B7 := Lib.hid (S6.out.bel.trans (hbel7.mono (Nat.le_succ _))); obtain ⟨a7, n7, rfl⟩ := owns_shape hown7; clear hown7 hbel7 hk7))
  have E := Lib.hid (show kenc k = A3 ++ M.var k.q by rw [kenc1 h1, ← HA3.out, ← HA1.out]; simp only [List.append_assoc])
  have YV := Lib.hid (((HA3.out ▸ ((HA1.out ▸ YS.out.app YC.out : M.Bytes A1).app YT.out).app YR.out : M.Bytes A3).app YQ.out) : M.Bytes (A3 ++ M.var k.q))
  have LV := Lib.hid (Nat.le_trans S6.out.lt B67.out)
  go_ret
  exact ⟨_, rfl, by have h := P7.out; rw [List.length_append] at h; rw [E.out, List.length_append]; exact h, by rw [E.out]; exact YV.out, LV.out, B7.out⟩
theorem refOut_is (k : Ky) (w : World) (hk : k.Ok) : Calls Tryz.prog 59 #[.agg k.cells.toArray] w (GivesRow w (kenc k)) := by
  by_cases h4 : k.s = 4
  · exact refOut4 k w hk h4
  · by_cases h1 : k.s = 1
    · exact refOut1 k w hk h4 h1
    · exact refOut2 k w hk h4 h1
end Go.Proofs.YtnpbmihbmilkbaaGreat
