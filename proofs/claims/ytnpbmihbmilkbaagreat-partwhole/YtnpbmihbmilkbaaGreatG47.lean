/- Index: the atoms that have each sum. Written by wip/tools/pindex_r20.py. Clash: two atoms of a state with one sum. -/
import Derived.Test.YtnpbmihbmilkbaaGreatG45
import Derived.Test.YtnpbmihbmilkbaaGreatG46
namespace Go.Proofs.YtnpbmihbmilkbaaGreat
open Go.RowKit Go.Shelf Go.Maps
attribute [local go_sem] Oper.semAt_some
section
variable {K : Type} [DecidableEq K] [Inhabited (MKd K)]
/-- Groups none of whose rows lies in the block g. -/
structure GrpsN (w : World) (B b n : Nat) (ky : Am → K) (s : List Am) (g : Nat) : Prop where
  ex : ∃ f, MapG w b n f ∧ GrpF w B f ky s (fun _ => True) ∧ ∀ k v, f k = some v → v.ownBlock ≠ some g
theorem GrpsN.grps {w : World} {B b n g : Nat} {ky : Am → K} {s : List Am} (h : GrpsN w B b n ky s g) : Grps w B b n ky s := by
  obtain ⟨f, h1, h2, _⟩ := h.ex
  exact ⟨f, h1, h2⟩
theorem Grps.off {w : World} {B b n g : Nat} {ky : Am → K} {s : List Am} (h : Grps w B b n ky s) (hg : w.heap.size ≤ g) : GrpsN w B b n ky s g := by
  obtain ⟨f, h1, h2⟩ := h.ex
  exact ⟨f, h1, h2, fun k v e e2 => by have := ((h2.row k v trivial e).1.row.lt g e2).2; omega⟩
theorem GrpsN.below {w w' : World} {B b n g : Nat} {ky : Am → K} {s : List Am} (h : GrpsN w B b n ky s g) (hb : Below w.heap.size w w') : GrpsN w' B b n ky s g := by
  obtain ⟨f, h1, h2, h3⟩ := h.ex
  exact ⟨f, h1.below hb, h2.below hb, h3⟩
theorem GrpsN.only {w w' : World} {B b n g i : Nat} {ky : Am → K} {s : List Am} (h : GrpsN w B b n ky s g) (ho : Only i w w') (hb : i ≠ b) (hi : i < B) : GrpsN w' B b n ky s g := by
  obtain ⟨f, h1, h2, h3⟩ := h.ex
  have hgr : w.grownBy w' (some i) := ⟨ho.os, ho.tape, ho.output, ho.size, fun k hk hn => ho.block k hk fun e => hn (by rw [e])⟩
  exact ⟨f, h1.only ho (fun e => hb e.symm), h2.kept (fun _ h => h) hgr fun k v hk e => (by
    cases e2 : v.ownBlock with
    | none => exact .inl rfl
    | some j => right; intro e3; have := ((h2.row k v hk e).1.row.lt j e2).1; have := Option.some.inj e3; omega), h3⟩
theorem GrpsN.look {w W : World} {B b n g : Nat} {ky : Am → K} {s : List Am} (h : GrpsN w B b n ky s g) (hb : Below w.heap.size w W) {k : K} (hk : MK.ok k) :
    ∃ v, (Instr.lookup (MK.mt K) (.map (some b)) (MK.kv k) false).run Tryz.prog W = .ok v W ∧ GotG W B b n ky s k v ∧ v.ownBlock ≠ some g := by
  obtain ⟨f, h1, h2, h3⟩ := h.ex
  obtain ⟨v, r, q⟩ := h.grps.look hk
  rw [run_lookupG h1 hk] at r
  injection r with r1 r2
  subst r1
  refine ⟨_, run_lookupG (h1.below hb) hk, q.below hb, ?_⟩
  cases e : f k with
  | none => exact fun e2 => (by cases e2)
  | some v => exact h3 k v e
theorem ready_lookN {ops : Array Oper} {Q : Exit → Act → World → Prop} {md : Region.Mode} {S : World → Prop} {fuel : Nat} {listed : Array Bool} {a : Act} {w : World} {i : Nat} {o : Oper} {rs : List Nat} (ho : ops[i]? = some o) (hg : o.guard = none) (x y : Operand) (hop : o.op = .lookup (MK.mt K) x y false) {W0 : World} (B b n : Nat) (ky : Am → K) (s : List Am) (k : K) (g : Nat) (hx : a.eval x = .map (some b)) (hy : a.eval y = MK.kv k) (hm : GrpsN W0 B b n ky s g) (hW : Below W0.heap.size W0 w) (hk : MK.ok k)
    (h : ∀ v, GotG w B b n ky s k v → v.ownBlock ≠ some g → S w ∧ wpAnyH Tryz.prog md ops Q S fuel (listed.setIfInBounds i true) (a.put o.dst v) w)
    (hs : AllReadyH Tryz.prog md ops Q S fuel listed a w rs) : AllReadyH Tryz.prog md ops Q S fuel listed a w (i :: rs) := by
  refine AllReadyH.cons ho (fun K hK => ?_) hs
  have hw : Region.wanted o (yielded ops a.tmps) = true := by simp [Region.wanted, hg]
  rw [if_pos hw]
  obtain ⟨v, hr, h1, h2⟩ := hm.look hW hk
  have H := h v h1 h2
  unfold Oper.wp execOp
  simp only [hop, hx, hy, Sem.run_bind, hr, Result.andThen_ok, Sem.run_pure]
  exact hK.out _ _ H.1 (fun _ => H.2)
end
set_option maxRecDepth 100000 in
set_option maxHeartbeats 8000000 in
theorem pindex_is (seed : Int) (hU : Hid (Mx.U64 seed)) (A : Option Addr) (n cap : Nat) (a : List Am) (w : World) (h : RowV w A n cap a) (hn : n ≤ 600) :
    Calls Tryz.prog 15 #[.int .u64 seed, .slice A n cap] w fun e w' => (∃ b, e = .returned (.map (some b)) ∧ Grps w' w.heap.size b (norm a).length (hsum seed) (norm a)) ∧ Below w.heap.size w w' := by
  have R0 := Lib.hid h
  have HA := Lib.hid hn
  clear h
  refine (callsIn_wide (n := 10)).1 ?_
  refine callsIn_of_wp_marks Tryz.func15 rfl trivial ?_ rfl
  simp only [Tryz.ntmps15, List.size_toArray, List.length_cons, List.length_nil, Nat.reduceAdd, Nat.reduceSub, Array.replicate_succ, Array.replicate_zero, List.push_toArray, List.append_toArray, List.nil_append, List.cons_append]
  gi_wp2_with (refine in_plain wide_no rfl (by intro c h; cases h) ?_; refine wpList_makeG (hsum seed) rfl rfl w.heap.size (Nat.le_refl _) ?_; intro b w1 eb M1 B1; refine in_done ?_)
  refine ⟨trivial, (callsIn_wide.2 (hashed_is seed A n cap _)).mono ?_⟩
  rintro e w2 ⟨⟨gA, gS, rfl, kA, kS, la, ls⟩, bb⟩
  have KA := Lib.hid kA
  have KS := Lib.hid kS
  have Q1 := Lib.hid (blk_alloc w1 31 [.map (some b)])
  have Q2 := Lib.hid (Q1.out.below bb)
  have B0 := Lib.hid (new_below w1 (.cells #[.map (some b)] 31))
  have B12 := Lib.hid (step_ B0.out bb)
  have BW2 := Lib.hid (step_ B1.out B12.out)
  have M2 := Lib.hid (M1.out.below B12.out)
  have LBL := Lib.hid (show w.heap.size ≤ b from Nat.le_of_eq eb.out.symm)
  have LBB := Lib.hid (show b < w1.heap.size from M1.out.lt)
  have LA := Lib.hid (show w1.heap.size ≤ gA by have := la; simp at this; omega)
  have LS := Lib.hid (show w1.heap.size ≤ gS by have := ls; simp at this; omega)
  have SZ := Lib.hid (show w1.heap.size + 1 ≤ w2.heap.size by have := bb.size; simpa using this)
  have ST := Lib.hid (norm_st R0.out.ok)
  have hsl : (norm a).length ≤ 600 := by have := norm_len a; have := R0.out.len; omega
  clear kA kS la ls bb Q1 B0
  gi_wp2_with fail
  rename_i K0 hK0
  obtain ⟨s, hs⟩ : ∃ s, norm a = s := ⟨_, rfl⟩
  have HS := Lib.hid (show SeqGen 36 #[.pointer (some ⟨gA, 0, none⟩), .pointer (some ⟨gS, 0, none⟩)] _ (encH seed) (NxA s) (fun t => t = s) from hs ▸ hashed_seq seed hU.out gA gS A n cap a HA.out)
  rw [hs] at ST hsl
  have NE := Lib.hid hs
  clear hs
  have SL := Lib.hid hsl
  clear hsl
  refine range_gen (gf := 36) (lb := #[.pointer (some ⟨gA, 0, none⟩), .pointer (some ⟨gS, 0, none⟩)]) rfl (fun _ _ => rfl) HS.out (fun _ => rfl)
    (fun B pre V => Grps V B b pre.length (hsum seed) pre ∧ Below w.heap.size w V ∧ Own2 w1.heap.size w2 V)
    (fun V => False)
    (fun B pre V V' h hb => ⟨h.1.below hb, h.2.1.trans (hb.mono h.2.1.size), h.2.2.below hb⟩)
    (fun B pre V V' h9 h ho hg hB => by
      have := SZ.out; have := LBB.out; have := LBL.out
      exact ⟨h.1.only ho (by omega) hB, h.2.1.trans (ho.below (by omega) h.2.1.size), h.2.2.only ho (by omega)⟩)
    (fun B pre V o hB h => by
      have := SZ.out; have := LBB.out; have := LBL.out
      exact ⟨h.1.only (only_putObj _ _ _) (by omega) (by omega), below_put h.2.1 (by omega), h.2.2.put (by omega)⟩)
    (fun V o h => h.elim)
    (fun V V' g h _ _ => h.elim)
    (fun B pre V h => ⟨⟨h.2.2.blk KA.out LA.out, R0.out.below h.2.1⟩, h.2.2.blk KS.out LS.out⟩)
    (fun V hb => ⟨⟨KA.out.below hb, R0.out.below (step_ BW2.out hb)⟩, KS.out.below hb⟩)
    (fun B V hB hV hb => ⟨(M2.out.below hb).base, step_ BW2.out hb, ⟨fun k _ h2 => hb.block k h2, hb.size⟩⟩)
    (fun B pre x a' V => (x.Ok ∧ pre.length < 600) ∧ ∃ g4, a' = { tmps := #[.int .u64 seed, .slice A n cap, undef, undef, .map none, .pointer (some ⟨w1.heap.size, 0, none⟩), .int .u64 (hsum seed x), .pointer (some ⟨g4, 0, none⟩), .map (some b), .int .u64 seed, .slice A n cap, .func (.func 36) #[] #[.pointer (some ⟨gA, 0, none⟩), .pointer (some ⟨gS, 0, none⟩)], .int .u64 (hsum seed x), .agg x.cells.toArray, undef, undef, undef, undef, undef, undef, undef, undef, undef], defers := [] } ∧ B ≤ g4 ∧ Blk V g4 50 x.cells ∧ GrpsN V B b pre.length (hsum seed) pre g4 ∧ Below w.heap.size w V ∧ Own2 w1.heap.size w2 V ∧ B ≤ V.heap.size)
    (fun B pre x a' V o hB h => by
      obtain ⟨hx, g4, e, l4, k4, hm, h3, h5, hv⟩ := h
      have := SZ.out; have := LBB.out; have := LBL.out
      exact ⟨hx, g4, e, l4, blk_put k4 (by omega), hm.only (only_putObj _ _ _) (by omega) (by omega), below_put h3 (by omega), h5.put (by omega), by simpa using hv⟩)
    ?assign ?body ?done ?stop
  case assign =>
    intro l B pre x W K hnx hi hB hB2 hlt hK
    have XO := Lib.hid (nxA_ok hnx ST.out SL.out)
    have HI := Lib.hid hi
    have Z := Lib.hid (blk_alloc W 50 azero.cells)
    have hz := zero32
    clear hi hnx
    simp only [encH, List.zip_toArray, List.zip_cons_cons, List.zip_nil_right, List.foldl_toArray', List.foldl_cons, List.foldl_nil, List.size_toArray, List.length_cons, List.length_nil, List.setIfInBounds_toArray, List.set_cons_zero, List.set_cons_succ]
    gi_wp2_with (refine in_plain (wide_in l) rfl (by intro c h; cases h) ?_; refine wpList_store_am rfl _ _ rfl W.heap.size azero x rfl rfl Z.out azero_ok XO.out.1 ?_; intro V1 N1 O1; have BV := Lib.hid (box_below O1.out); refine in_done ?_)
    obtain ⟨h1, h3, h5⟩ := HI.out
    exact hK _ _ BV.out ⟨XO.out, _, rfl, hB2, N1.out, (h1.off (Nat.le_refl _)).below BV.out, h3.trans (BV.out.mono h3.size), h5.below BV.out, Nat.le_trans hB2 BV.out.size⟩
  case body =>
    intro l B pre x a' W hnx hax hB hB2 hlt
    obtain ⟨hx, g4, rfl, l4, k4, hm, h3, h5, hv⟩ := hax
    have XO := Lib.hid hx
    have XU := Lib.hid (show MK.ok (K := Int) (hsum seed x) from hsum_U seed x)
    have H3 := Lib.hid h3
    have H5 := Lib.hid h5
    have G4 := Lib.hid k4
    have L4 := Lib.hid l4
    have GI := Lib.hid (h5.blk Q2.out (Nat.le_refl _))
    have LB := Lib.hid (show w1.heap.size + 3 ≤ B by have := SZ.out; omega)
    have LW2 := Lib.hid (show w2.heap.size + 2 ≤ B from hB)
    have LB2 := Lib.hid hB2
    have GNW := Lib.hid hm
    have BW_ := Lib.hid (show Below W.heap.size W W.drew from below_drew (Below.refl _ _))
    have S0 := Lib.hid (show Blk W.drew g4 50 x.cells ∧ Blk W.drew w1.heap.size 31 [.map (some b)] from ⟨G4.out.drew, GI.out.drew⟩)
    clear hx h3 h5 hB hB2 k4 hv hm l4
    gi_wp2_with fail
    refine region_in (wide_in l) (S := fun V => Blk V g4 50 x.cells ∧ Blk V w1.heap.size 31 [.map (some b)]) (by kernel_rfl) (by kernel_rfl) S0.out (fun _ => ?_)
    refine wpAnyH_take (i := 0) (oi := { dst := some 14, op := Go.Op.load 31 (Go.Operand.tmp 5), type := 31, pos := _, after := #[], guard := none }) (v := ?_) rfl (by kernel_rfl) (by kernel_rfl) (by kernel_rfl) (fun _ _ _ h => h) (Or.inl ⟨by rfl, ?_⟩) S0.out ?_
    rotate_left
    · intro W9 hW; have c := hW.2.cell (i := 0) rfl; (go_simp; try with_reducible rfl)
    try simp only [Act.put, List.setIfInBounds_toArray, List.set_cons_zero, List.set_cons_succ]
    refine wpAnyH_take (i := 1) (oi := { dst := some 15, op := Go.Op.move (Go.Operand.tmp 6), type := 22, pos := _, after := #[], guard := none }) (v := ?_) rfl (by kernel_rfl) (by kernel_rfl) (by kernel_rfl) (fun _ _ _ h => h) (Or.inl ⟨by rfl, ?_⟩) S0.out ?_
    rotate_left
    · intro W9 hW; (go_simp; try with_reducible rfl)
    try simp only [Act.put, List.setIfInBounds_toArray, List.set_cons_zero, List.set_cons_succ]
    refine wpAnyH_take (i := 2) (oi := { dst := some 16, op := Go.Op.load 31 (Go.Operand.tmp 5), type := 31, pos := _, after := #[], guard := none }) (v := ?_) rfl (by kernel_rfl) (by kernel_rfl) (by kernel_rfl) (fun _ _ _ h => h) (Or.inl ⟨by rfl, ?_⟩) S0.out ?_
    rotate_left
    · intro W9 hW; have c := hW.2.cell (i := 0) rfl; (go_simp; try with_reducible rfl)
    try simp only [Act.put, List.setIfInBounds_toArray, List.set_cons_zero, List.set_cons_succ]
    refine wpAnyH_take (i := 3) (oi := { dst := some 17, op := Go.Op.move (Go.Operand.tmp 6), type := 22, pos := _, after := #[], guard := none }) (v := ?_) rfl (by kernel_rfl) (by kernel_rfl) (by kernel_rfl) (fun _ _ _ h => h) (Or.inl ⟨by rfl, ?_⟩) S0.out ?_
    rotate_left
    · intro W9 hW; (go_simp; try with_reducible rfl)
    try simp only [Act.put, List.setIfInBounds_toArray, List.set_cons_zero, List.set_cons_succ]
    refine wpAnyH_take (i := 5) (oi := { dst := some 19, op := Go.Op.load 50 (Go.Operand.tmp 7), type := 50, pos := _, after := #[], guard := none }) (v := .agg (x.cells).toArray) rfl (by kernel_rfl) (by kernel_rfl) (by kernel_rfl) (fun _ _ _ h => h) (yieldsIf_load_mid (by rfl) 50 (.tmp 7) rfl g4 0 rfl (x.cells) _ (fun W9 hW => hW.1.range) Tryz.underlying50 rfl (size32 XO.out.1)) S0.out ?_
    try simp only [Act.put, List.setIfInBounds_toArray, List.set_cons_zero, List.set_cons_succ]
    refine wpAnyH_ready (rs := [4, 6]) (by kernel_rfl) (by simp) ?_
    refine ready_lookN (o := { dst := some 18, op := Go.Op.lookup 31 (Go.Operand.tmp 16) (Go.Operand.tmp 17) false, type := 23, pos := _, after := #[{ on := 2, ground := Go.Ground.data }, { on := 3, ground := Go.Ground.data }], guard := none }) rfl rfl _ _ rfl B b pre.length (hsum seed) pre (hsum seed x) g4 rfl rfl GNW.out BW_.out XU.out (fun v3 gt3 l3 => ?_) ?_
    · have GT0 := Lib.hid gt3
      have LT := Lib.hid l3
      clear gt3 l3
      refine ⟨S0.out, ?_⟩
      try simp only [Act.put, List.setIfInBounds_toArray, List.set_cons_zero, List.set_cons_succ]
      refine wpAnyH_ready (rs := [6]) (by kernel_rfl) (by simp) ?_
      refine ready_one46 (o := { dst := some 20, op := Go.Op.buildSlice 23 1 #[(0, Go.Operand.tmp 19)], type := 23, pos := _, after := #[{ on := 5, ground := Go.Ground.data }], guard := none }) rfl rfl _ rfl x rfl XO.out.1 (fun gg w4 e4 n4 b4 => ?_) AllReadyH.nil
      have BW4 := Lib.hid (step_ BW_.out b4)
      have S4 := Lib.hid (show Blk w4 g4 50 x.cells ∧ Blk w4 w1.heap.size 31 [.map (some b)] from ⟨S0.out.1.below b4, S0.out.2.below b4⟩)
      have GT := Lib.hid (GT0.out.below b4)
      have N4 := Lib.hid n4
      have BSZ := Lib.hid (Nat.le_trans LB2.out BW4.out.size)
      clear e4 n4 b4
      refine ⟨S4.out, ?_⟩
      try simp only [Act.put, List.setIfInBounds_toArray, List.set_cons_zero, List.set_cons_succ]
      refine wpAnyH_ready (rs := [7]) (by kernel_rfl) (by simp) ?_
      refine ready_appM (o := { dst := some 21, op := Go.Op.call { callee := Go.Callee.builtin Go.Builtin.append, args := #[Go.Operand.tmp 18, Go.Operand.tmp 20], argTypes := #[23, 23] }, type := 23, pos := _, after := #[{ on := 4, ground := Go.Ground.data }, { on := 6, ground := Go.Ground.data }], guard := none }) rfl rfl _ _ rfl B b pre.length (hsum seed) pre (hsum seed x) v3 x gg rfl rfl GT.out XO.out.1 N4.out (by have := XO.out.2; omega) BSZ.out (fun u5 w5 p5 b5 q5 => ?_) AllReadyH.nil
      have P5 := Lib.hid p5
      have B5 := Lib.hid (BW4.out.mono LB2.out |>.trans b5)
      have S5 := Lib.hid (show Blk w5 g4 50 x.cells ∧ Blk w5 w1.heap.size 31 [.map (some b)] from ⟨grown_blk S4.out.1 q5 (fun e => LT.out e), grown_blk S4.out.2 q5 (fun e => by have := (GT.out.own.row.lt _ e).1; have := LB.out; omega)⟩)
      clear p5 b5 q5
      refine ⟨S5.out, ?_⟩
      try simp only [Act.put, List.setIfInBounds_toArray, List.set_cons_zero, List.set_cons_succ]
      refine wpAnyH_ready (rs := [8]) (by kernel_rfl) (by simp) ?_
      refine ready_putG (o := { dst := none, op := Go.Op.mapUpdate 31 (Go.Operand.tmp 14) (Go.Operand.tmp 15) (Go.Operand.tmp 21), type := 0, pos := _, after := #[{ on := 0, ground := Go.Ground.data }, { on := 1, ground := Go.Ground.data }, { on := 7, ground := Go.Ground.data }, { on := 7, ground := Go.Ground.chain }, { on := 0, ground := Go.Ground.phase }, { on := 1, ground := Go.Ground.phase }, { on := 2, ground := Go.Ground.phase }, { on := 3, ground := Go.Ground.phase }, { on := 4, ground := Go.Ground.phase }, { on := 5, ground := Go.Ground.phase }, { on := 6, ground := Go.Ground.phase }, { on := 7, ground := Go.Ground.phase }], guard := none }) rfl rfl _ _ _ rfl B b pre.length (hsum seed) pre (hsum seed x) u5 x rfl rfl rfl P5.out rfl XU.out (by have := XO.out.2; omega) (fun w6 m6 o6 => ?_) AllReadyH.nil
      have M6 := Lib.hid m6
      have O6 := Lib.hid o6
      have S6 := Lib.hid (show Blk w6 g4 50 x.cells ∧ Blk w6 w1.heap.size 31 [.map (some b)] from ⟨S5.out.1.only o6 (by have := L4.out; have := LB.out; have := LBB.out; omega), S5.out.2.only o6 (by have := LBB.out; omega)⟩)
      clear m6 o6
      refine ⟨S6.out, ?_⟩
      try simp only [Act.put]
      refine wpAnyH_done (by kernel_rfl) ?_ _
      refine ⟨rfl, ?_⟩
      gi_wp2_with fail
      have hz1 := B5.out.size
      have hz2 := LB2.out
      have hz3 := LB.out
      have hz4 := LBB.out
      have hz5 := LW2.out
      have hz6 := SZ.out
      have hz7 := LBL.out
      refine ⟨?_, fun k hk1 hk2 => ?_, ?_, ?_, ?_⟩
      · exact ⟨Nat.le_trans hz1 O6.out.size, (O6.out.block _ (by omega) (by omega)).trans (B5.out.block _ (by omega)), (O6.out.block _ (by omega) (by omega)).trans (B5.out.block _ (by omega))⟩
      · exact (O6.out.block k (by omega) (by omega)).trans (B5.out.block k hk2)
      · exact M6.out
      · exact (H3.out.trans (B5.out.mono (by omega))).trans (O6.out.below LBL.out (by omega))
      · exact Own2.low ⟨fun k h1 h2 => (B5.out.block k (by omega)).trans (H5.out.same k h1 h2), Nat.le_trans H5.out.size (by omega)⟩ O6.out LBB.out
    · refine ready_one46 (o := { dst := some 20, op := Go.Op.buildSlice 23 1 #[(0, Go.Operand.tmp 19)], type := 23, pos := _, after := #[{ on := 5, ground := Go.Ground.data }], guard := none }) rfl rfl _ rfl x rfl XO.out.1 (fun gg w4 e4 n4 b4 => ?_) AllReadyH.nil
      have B4 := Lib.hid b4
      have BW4 := Lib.hid (step_ BW_.out b4)
      have S4 := Lib.hid (show Blk w4 g4 50 x.cells ∧ Blk w4 w1.heap.size 31 [.map (some b)] from ⟨S0.out.1.below b4, S0.out.2.below b4⟩)
      have N4 := Lib.hid n4
      have BSZ := Lib.hid (Nat.le_trans LB2.out BW4.out.size)
      clear e4 n4 b4
      refine ⟨S4.out, ?_⟩
      try simp only [Act.put, List.setIfInBounds_toArray, List.set_cons_zero, List.set_cons_succ]
      refine wpAnyH_ready (rs := [4]) (by kernel_rfl) (by simp) ?_
      refine ready_lookN (o := { dst := some 18, op := Go.Op.lookup 31 (Go.Operand.tmp 16) (Go.Operand.tmp 17) false, type := 23, pos := _, after := #[{ on := 2, ground := Go.Ground.data }, { on := 3, ground := Go.Ground.data }], guard := none }) rfl rfl _ _ rfl B b pre.length (hsum seed) pre (hsum seed x) g4 rfl rfl GNW.out BW4.out XU.out (fun v3 gt3 l3 => ?_) AllReadyH.nil
      have GT := Lib.hid gt3
      have LT := Lib.hid l3
      clear gt3 l3
      refine ⟨S4.out, ?_⟩
      try simp only [Act.put, List.setIfInBounds_toArray, List.set_cons_zero, List.set_cons_succ]
      refine wpAnyH_ready (rs := [7]) (by kernel_rfl) (by simp) ?_
      refine ready_appM (o := { dst := some 21, op := Go.Op.call { callee := Go.Callee.builtin Go.Builtin.append, args := #[Go.Operand.tmp 18, Go.Operand.tmp 20], argTypes := #[23, 23] }, type := 23, pos := _, after := #[{ on := 4, ground := Go.Ground.data }, { on := 6, ground := Go.Ground.data }], guard := none }) rfl rfl _ _ rfl B b pre.length (hsum seed) pre (hsum seed x) v3 x gg rfl rfl GT.out XO.out.1 N4.out (by have := XO.out.2; omega) BSZ.out (fun u5 w5 p5 b5 q5 => ?_) AllReadyH.nil
      have P5 := Lib.hid p5
      have B5 := Lib.hid (BW4.out.mono LB2.out |>.trans b5)
      have S5 := Lib.hid (show Blk w5 g4 50 x.cells ∧ Blk w5 w1.heap.size 31 [.map (some b)] from ⟨grown_blk S4.out.1 q5 (fun e => LT.out e), grown_blk S4.out.2 q5 (fun e => by have := (GT.out.own.row.lt _ e).1; have := LB.out; omega)⟩)
      clear p5 b5 q5
      refine ⟨S5.out, ?_⟩
      try simp only [Act.put, List.setIfInBounds_toArray, List.set_cons_zero, List.set_cons_succ]
      refine wpAnyH_ready (rs := [8]) (by kernel_rfl) (by simp) ?_
      refine ready_putG (o := { dst := none, op := Go.Op.mapUpdate 31 (Go.Operand.tmp 14) (Go.Operand.tmp 15) (Go.Operand.tmp 21), type := 0, pos := _, after := #[{ on := 0, ground := Go.Ground.data }, { on := 1, ground := Go.Ground.data }, { on := 7, ground := Go.Ground.data }, { on := 7, ground := Go.Ground.chain }, { on := 0, ground := Go.Ground.phase }, { on := 1, ground := Go.Ground.phase }, { on := 2, ground := Go.Ground.phase }, { on := 3, ground := Go.Ground.phase }, { on := 4, ground := Go.Ground.phase }, { on := 5, ground := Go.Ground.phase }, { on := 6, ground := Go.Ground.phase }, { on := 7, ground := Go.Ground.phase }], guard := none }) rfl rfl _ _ _ rfl B b pre.length (hsum seed) pre (hsum seed x) u5 x rfl rfl rfl P5.out rfl XU.out (by have := XO.out.2; omega) (fun w6 m6 o6 => ?_) AllReadyH.nil
      have M6 := Lib.hid m6
      have O6 := Lib.hid o6
      have S6 := Lib.hid (show Blk w6 g4 50 x.cells ∧ Blk w6 w1.heap.size 31 [.map (some b)] from ⟨S5.out.1.only o6 (by have := L4.out; have := LB.out; have := LBB.out; omega), S5.out.2.only o6 (by have := LBB.out; omega)⟩)
      clear m6 o6
      refine ⟨S6.out, ?_⟩
      try simp only [Act.put]
      refine wpAnyH_done (by kernel_rfl) ?_ _
      refine ⟨rfl, ?_⟩
      gi_wp2_with fail
      have hz1 := B5.out.size
      have hz2 := LB2.out
      have hz3 := LB.out
      have hz4 := LBB.out
      have hz5 := LW2.out
      have hz6 := SZ.out
      have hz7 := LBL.out
      refine ⟨?_, fun k hk1 hk2 => ?_, ?_, ?_, ?_⟩
      · exact ⟨Nat.le_trans hz1 O6.out.size, (O6.out.block _ (by omega) (by omega)).trans (B5.out.block _ (by omega)), (O6.out.block _ (by omega) (by omega)).trans (B5.out.block _ (by omega))⟩
      · exact (O6.out.block k (by omega) (by omega)).trans (B5.out.block k hk2)
      · exact M6.out
      · exact (H3.out.trans (B5.out.mono (by omega))).trans (O6.out.below LBL.out (by omega))
      · exact Own2.low ⟨fun k h1 h2 => (B5.out.block k (by omega)).trans (H5.out.same k h1 h2), Nat.le_trans H5.out.size (by omega)⟩ O6.out LBB.out
  case done =>
    intro D B t W hD hD2 hB hf hi hd
    subst hf
    obtain ⟨h1, h3, h5⟩ := hi
    have GM := Lib.hid h1
    have H3 := Lib.hid h3
    have c0 := (h5.blk Q2.out (Nat.le_refl _)).cell (i := 0) rfl
    have HD := Lib.hid hd
    have LD := Lib.hid (show w1.heap.size + 1 ≤ D ∧ D < B by have := SZ.out; omega)
    clear hd h1 h3 h5
    show K0 _ _
    refine hK0 _ _ ?_
    gi_wp2_with fail
    refine marks_ret D rfl HD.out (results_tmp rfl _ _ _) ?_
    have := LBB.out
    have := LBL.out
    have := LD.out
    exact ⟨⟨b, rfl, by rw [NE.out]; exact (GM.out.only (only_putObj _ _ _) (by omega) (by omega)).down (by omega)⟩, below_put H3.out (by omega)⟩
  case stop =>
    intro D W hD hx hd
    exact hx.elim
end Go.Proofs.YtnpbmihbmilkbaaGreat
namespace Go.Proofs.YtnpbmihbmilkbaaGreat
open Go.RowKit Go.Shelf Go.Maps
attribute [local go_sem] Oper.semAt_some
theorem clash_at {f : Am → Int} {s : List Am} {k : Int} (h : 1 < (onK f k s).length) : clashS f s = true := (clash_some f).2 ⟨k, h⟩
theorem clash_no {f : Am → Int} {s : List Am} (h : ∀ k, (onK f k s).length ≤ 1) : clashS f s = false := (clash_false f).2 ((nodup_filter f s).2 h)
set_option maxRecDepth 100000 in
set_option maxHeartbeats 8000000 in
theorem clash_is (seed : Int) (hU : Hid (Mx.U64 seed)) (A : Option Addr) (n cap : Nat) (a : List Am) (c : Bool) (w : World) (h : RowV w A n cap a) (hn : n ≤ 600) (hc : Hid (clashS (hsum seed) (norm a) = c)) :
    Calls Tryz.prog 10 #[.int .u64 seed, .slice A n cap] w fun e w' => e = .returned (.bool c) ∧ Below w.heap.size w w' := by
  have R0 := Lib.hid h
  clear h
  go_enter Tryz.func10, Tryz.ntmps10
  go_wp2_with fail
  refine (pindex_is seed hU A n cap a _ R0.out hn).mono ?_
  rintro e w1 ⟨⟨b, rfl, hg⟩, b1⟩
  obtain ⟨f, hm, hf⟩ := hg.ex
  obtain ⟨s, hs⟩ : ∃ s, norm a = s := ⟨_, rfl⟩
  rw [hs] at hf hm hc
  have M1 := Lib.hid hm
  have F1 := Lib.hid hf
  have B1 := Lib.hid b1
  have BL := Lib.hid (show b < w1.heap.size from hm.lt)
  obtain ⟨N, hN⟩ : ∃ N, s.length = N := ⟨_, rfl⟩
  rw [hN] at M1
  clear hg hm hf b1 hs
  go_wp2_with (refine wpList_rangeG rfl _ rfl b N f rfl M1.out ?_; intro r w2 cnt er R2 ec B2)
  have RL := Lib.hid (show w1.heap.size ≤ r from Nat.le_of_eq er.out.symm)
  simp only [Act.put, List.setIfInBounds_toArray, List.set_cons_succ, List.set_cons_zero]
  go_loopw [6] (fun _ wr => ∃ (gg : Int → Option Value) (cnt : Nat), RangeG wr b r N f gg cnt ∧ (∀ k v, f k = some v → gg k = none → (onK (hsum seed) k s).length ≤ 1) ∧ Below w1.heap.size w1 wr) (fun _ wr => wr.rangeLeft b r)
  case atStart => exact ⟨f, cnt, R2.out, fun k v e e2 => (by rw [e] at e2; cases e2), B2.out⟩
  case round =>
    obtain ⟨gg, cnt, hr, hl, hb⟩ := hrel
    have RR := Lib.hid hr
    have LL := Lib.hid hl
    have BB := Lib.hid hb
    clear hr hl hb
    go_wp2_with (first
      | go_skip
      | refine wpList_nextG rfl _ rfl b r N f gg cnt rfl RR.out ?_ ?_)
    · intro h0
      have HC := Lib.hid (show c = false by
        rw [← hc.out]
        refine clash_no fun k => ?_
        cases e : f k with
        | none => rw [onK_none (F1.out.no k trivial e)]; simp
        | some v => exact LL.out k v e (h0.out k))
      go_wp2_with fail
      go_ret
      exact ⟨ret_bool HC.out.symm, step_ B1.out BB.out⟩
    · intro k v w3 cnt1 hg R3 lt3 N3 sz3 hen
      obtain ⟨A0, c0, rfl⟩ := (F1.out.row k v trivial (RR.out.sub _ _ hg.out)).1.shape
      have B3 := Lib.hid (show Below w1.heap.size w1 w3 from BB.out.trans (N3.out.below RL.out BB.out.size))
      have MS := Lib.hid (F1.out.row k _ trivial (RR.out.sub _ _ hg.out)).1.row
      by_cases h1 : 1 < (onK (hsum seed) k s).length
      · have HC := Lib.hid (show c = true by rw [← hc.out]; exact clash_at h1)
        have hlt : decide ((1 : Int) < ((onK (hsum seed) k s).length : Int)) = true := decide_eq_true (by omega)
        go_wp2_with fail
        go_ret
        exact ⟨ret_bool HC.out.symm, step_ B1.out B3.out⟩
      · have hlt : decide ((1 : Int) < ((onK (hsum seed) k s).length : Int)) = false := decide_eq_false (by omega)
        have L3 := Lib.hid (show ∀ k2 v2, f k2 = some v2 → delG gg k k2 = none → (onK (hsum seed) k2 s).length ≤ 1 from fun k2 v2 e e2 => by
          by_cases hk : k2 = k
          · subst hk; omega
          · unfold delG at e2; rw [if_neg hk] at e2; exact LL.out k2 v2 e e2)
        clear h1
        go_wp2_with fail
        go_roundw
        case rel => exact ⟨delG gg k, cnt1, R3.out, L3.out, B3.out⟩
        case measure => rw [R3.out.left_eq, RR.out.left_eq]; exact lt3.out
end Go.Proofs.YtnpbmihbmilkbaaGreat
