/- The region of hashed's body that draws its order: the sum and the yield. -/
import Derived.Test.YtnpbmihbmilkbaaGreatG23
import Derived.Test.YtnpbmihbmilkbaaGreatG28
import Derived.Test.YtnpbmihbmilkbaaGreatG29
namespace Go.Proofs.YtnpbmihbmilkbaaGreat
open Go.RowKit Go.Shelf
attribute [local go_sem] Oper.semAt_some
def opsY : Array Oper :=
  #[{ dst := some 14, op := Op.load 65 (Operand.tmp 3), type := 65, pos := "part.go:84",
                            after := #[], guard := none },
                          { dst := some 15, op := Op.load 22 (Operand.tmp 2), type := 22, pos := "part.go:84",
                            after := #[], guard := none },
                          { dst := some 16, op := Op.load 50 (Operand.tmp 6), type := 50, pos := "part.go:84",
                            after := #[], guard := none },
                          { dst := some 17,
                            op :=
                              Op.call
                                { callee := Callee.value (Operand.func 38),
                                  args := #[Operand.tmp 15, Operand.tmp 16], argTypes := #[22, 50] },
                            type := 22, pos := "part.go:84",
                            after := #[{ on := 1, ground := Ground.data }, { on := 2, ground := Ground.data }],
                            guard := none },
                          { dst := some 18, op := Op.load 50 (Operand.tmp 6), type := 50, pos := "part.go:84",
                            after := #[], guard := none },
                          { dst := some 19,
                            op :=
                              Op.call
                                { callee := Callee.value (Operand.tmp 14),
                                  args := #[Operand.tmp 17, Operand.tmp 18], argTypes := #[22, 50] },
                            type := 4, pos := "part.go:84",
                            after :=
                              #[{ on := 0, ground := Ground.data }, { on := 3, ground := Ground.data },
                                { on := 4, ground := Ground.data }, { on := 3, ground := Ground.chain }],
                            guard := none },
                          { dst := some 20, op := Op.unOp UnOp.not 4 (Operand.tmp 19), type := 4,
                            pos := "part.go:84", after := #[{ on := 5, ground := Ground.data }], guard := none }]
theorem opIn_val {F : Fence} (hF : Wide F) {n : Nat} {P : Program} {ops : Array Oper} {Q : Exit → Act → World → Prop} {i : Nat} {K : Act → World → Prop} {a : Act} {w : World} {o : Oper} (ho : ops[i]? = some o) (hg : o.guard = none) (hd : ∀ c, o.op ≠ .defer c) (v : Value) (w1 : World)
    (hr : (execOp a.eval o).run P w = .ok (.value v) w1) (hk : K (a.put o.dst v) w1) : wpOpIn F n P ops Q i K a w := by
  unfold wpOpIn
  rw [ho]
  simp only []
  rw [if_pos (by simp [Region.wanted, hg])]
  refine op_in (K := K) (Q := fun _ _ _ => False) hF hd (fun _ _ h => h) (fun _ _ _ _ h => h.elim) ?_
  unfold Oper.wp
  rw [hr]
  exact hk
theorem opIn_call {F : Fence} (hF : Wide F) {n : Nat} {P : Program} {ops : Array Oper} {Q : Exit → Act → World → Prop} {i : Nat} {K : Act → World → Prop} {a : Act} {w : World} {o : Oper} (ho : ops[i]? = some o) (hg : o.guard = none) (hd : ∀ c, o.op ≠ .defer c) (f : FuncId) (args : Array Value) (w1 : World)
    (hr : (execOp a.eval o).run P w = .ok (.enter f args) w1) (hk : Calls P f args w1 fun e w' => ∃ v, e = .returned v ∧ K (a.put o.dst v) w') : wpOpIn F n P ops Q i K a w := by
  unfold wpOpIn
  rw [ho]
  simp only []
  rw [if_pos (by simp [Region.wanted, hg])]
  refine op_in (K := K) (Q := fun _ _ _ => False) hF hd (fun _ _ h => h) (fun _ _ _ _ h => h.elim) ?_
  unfold Oper.wp
  rw [hr]
  refine hk.mono ?_
  rintro e w' ⟨v, rfl, h⟩
  exact h
theorem opIn_round {F : Fence} (hF : Wide F) {n : Nat} {P : Program} {ops : Array Oper} {Q : Exit → Act → World → Prop} {i : Nat} {K : Act → World → Prop} {a : Act} {w : World} {o : Oper} (ho : ops[i]? = some o) (hg : o.guard = none) (l : Nat) (f : FuncId) (tmps : Array Value) (assign body : Code) (w1 : World)
    (hr : (o.semAt F.round a.eval).run P w = .ok (.round l f tmps assign body) w1) (hk : RoundIn F (n - 1) P l f tmps assign body w1 fun e w' => ∃ v, e = .returned v ∧ K (a.put o.dst v) w') : wpOpIn F n P ops Q i K a w := by
  unfold wpOpIn
  rw [ho]
  simp only []
  rw [if_pos (by simp [Region.wanted, hg])]
  refine ⟨fun f _ => wide_fn hF f, ?_⟩
  rw [hr]
  refine ⟨fun e => (by rw [wide_depth hF] at e; cases e), RoundIn.mono hk ?_⟩
  rintro e w' ⟨v, rfl, h⟩
  exact h
theorem exec_load_fn {o : Oper} {a : Act} {w : World} (x : Operand) (ho : o.op = .load 65 x) (g : Nat) (v : Value) (hx : a.eval x = .pointer (some ⟨g, 0, none⟩)) (hb : Blk w g 65 [v]) : (execOp a.eval o).run Tryz.prog w = .ok (.value v) w := by
  have hc := hb.cell (i := 0) rfl
  unfold execOp
  simp only [ho, hx]
  simp [go_sem, hc]
theorem exec_load_am {o : Oper} {a : Act} {w : World} (x : Operand) (ho : o.op = .load 50 x) (g : Nat) (A : Am) (hx : a.eval x = .pointer (some ⟨g, 0, none⟩)) (hb : Blk w g 50 A.cells) (hm : A.Ok) : (execOp a.eval o).run Tryz.prog w = .ok (.value (.agg A.cells.toArray)) w := by
  have h := run_loadAt_mid (P := Tryz.prog) w g 0 50 A.cells _ hb.range Tryz.underlying50 rfl (size32 hm)
  simp [execOp, ho, hx, h]
theorem exec_sum {o : Oper} {a : Act} {w : World} (x y : Operand) (ho : o.op = .call { callee := .value (.func 38), args := #[x, y], argTypes := #[22, 50] }) (u v : Value) (hx : a.eval x = u) (hy : a.eval y = v) : (execOp a.eval o).run Tryz.prog w = .ok (.enter 38 #[u, v]) w := by
  unfold execOp
  simp only [ho]
  rw [← hx, ← hy]
  simp [resolve, invoke, go_sem]
set_option maxRecDepth 100000 in
set_option maxHeartbeats 4000000 in
theorem yreg {F : Fence} (hF : Wide F) {n : Nat} {Q : Exit → Act → World → Prop} {C : World → Prop} (g3 gs g6 : Nat) (fy : Value) (seed q : Int) (x : Am) (hx : x.Ok) (h3 : ∀ V, C V → Blk V g3 65 [fy]) (hs : ∀ V, C V → Blk V gs 22 [.int .u64 seed]) (h6 : ∀ V, C V → Blk V g6 50 x.cells)
    (hq : ∀ V, C V → Calls Tryz.prog 38 #[.int .u64 seed, .agg x.cells.toArray] V fun e V' => e = .returned (.int .u64 q) ∧ C V')
    (s0 s1 s4 s5 s7 s8 s9 s10 s11 s12 s13 u14 u15 u16 u17 u18 u19 u20 : Value)
    (hy : ∀ V, C V → wpOpIn F n Tryz.prog opsY Q 5 (wpAnyIn F n Tryz.prog .any opsY Q 1 #[true, true, true, true, true, true, false]) { tmps := #[s0, s1, .pointer (some ⟨gs, 0, none⟩), .pointer (some ⟨g3, 0, none⟩), s4, s5, .pointer (some ⟨g6, 0, none⟩), s7, s8, s9, s10, s11, s12, s13, fy, .int .u64 seed, .agg x.cells.toArray, .int .u64 q, .agg x.cells.toArray, u19, u20], defers := [] } V) :
    ∀ V, C V → wpAnyIn F n Tryz.prog .any opsY Q opsY.size (Array.replicate opsY.size false) { tmps := #[s0, s1, .pointer (some ⟨gs, 0, none⟩), .pointer (some ⟨g3, 0, none⟩), s4, s5, .pointer (some ⟨g6, 0, none⟩), s7, s8, s9, s10, s11, s12, s13, u14, u15, u16, u17, u18, u19, u20], defers := [] } V := by
  have S01234_ : ∀ V, C V → wpAnyIn F n Tryz.prog .any opsY Q 2 #[true, true, true, true, true, false, false] { tmps := #[s0, s1, .pointer (some ⟨gs, 0, none⟩), .pointer (some ⟨g3, 0, none⟩), s4, s5, .pointer (some ⟨g6, 0, none⟩), s7, s8, s9, s10, s11, s12, s13, fy, .int .u64 seed, .agg x.cells.toArray, .int .u64 q, .agg x.cells.toArray, u19, u20], defers := [] } V := by
    intro V hV
    have hR : Region.ready .any opsY #[true, true, true, true, true, false, false] = [5] := by kernel_rfl
    refine ⟨fun e => (by rw [hR] at e; cases e), fun i hi => ?_⟩
    rw [hR] at hi
    obtain rfl := List.mem_singleton.1 hi
    exact hy V hV
  have S0123_ : ∀ V, C V → wpAnyIn F n Tryz.prog .any opsY Q 3 #[true, true, true, true, false, false, false] { tmps := #[s0, s1, .pointer (some ⟨gs, 0, none⟩), .pointer (some ⟨g3, 0, none⟩), s4, s5, .pointer (some ⟨g6, 0, none⟩), s7, s8, s9, s10, s11, s12, s13, fy, .int .u64 seed, .agg x.cells.toArray, .int .u64 q, u18, u19, u20], defers := [] } V := by
    intro V hV
    have hR : Region.ready .any opsY #[true, true, true, true, false, false, false] = [4] := by kernel_rfl
    refine ⟨fun e => (by rw [hR] at e; cases e), fun i hi => ?_⟩
    rw [hR] at hi
    obtain rfl := List.mem_singleton.1 hi
    exact opIn_val hF rfl rfl (by intro c h; cases h) _ V (exec_load_am _ rfl g6 x rfl (h6 V hV) hx) (S01234_ V hV)
  have S0124_ : ∀ V, C V → wpAnyIn F n Tryz.prog .any opsY Q 3 #[true, true, true, false, true, false, false] { tmps := #[s0, s1, .pointer (some ⟨gs, 0, none⟩), .pointer (some ⟨g3, 0, none⟩), s4, s5, .pointer (some ⟨g6, 0, none⟩), s7, s8, s9, s10, s11, s12, s13, fy, .int .u64 seed, .agg x.cells.toArray, u17, .agg x.cells.toArray, u19, u20], defers := [] } V := by
    intro V hV
    have hR : Region.ready .any opsY #[true, true, true, false, true, false, false] = [3] := by kernel_rfl
    refine ⟨fun e => (by rw [hR] at e; cases e), fun i hi => ?_⟩
    rw [hR] at hi
    obtain rfl := List.mem_singleton.1 hi
    exact opIn_call hF rfl rfl (by intro c h; cases h) 38 #[.int .u64 seed, .agg x.cells.toArray] V (exec_sum _ _ rfl _ _ rfl rfl) ((hq V hV).mono fun e V1 h1 => ⟨_, h1.1, S01234_ V1 h1.2⟩)
  have S1234_ : ∀ V, C V → wpAnyIn F n Tryz.prog .any opsY Q 3 #[false, true, true, true, true, false, false] { tmps := #[s0, s1, .pointer (some ⟨gs, 0, none⟩), .pointer (some ⟨g3, 0, none⟩), s4, s5, .pointer (some ⟨g6, 0, none⟩), s7, s8, s9, s10, s11, s12, s13, u14, .int .u64 seed, .agg x.cells.toArray, .int .u64 q, .agg x.cells.toArray, u19, u20], defers := [] } V := by
    intro V hV
    have hR : Region.ready .any opsY #[false, true, true, true, true, false, false] = [0] := by kernel_rfl
    refine ⟨fun e => (by rw [hR] at e; cases e), fun i hi => ?_⟩
    rw [hR] at hi
    obtain rfl := List.mem_singleton.1 hi
    exact opIn_val hF rfl rfl (by intro c h; cases h) _ V (exec_load_fn _ rfl g3 fy rfl (h3 V hV)) (S01234_ V hV)
  have S012_ : ∀ V, C V → wpAnyIn F n Tryz.prog .any opsY Q 4 #[true, true, true, false, false, false, false] { tmps := #[s0, s1, .pointer (some ⟨gs, 0, none⟩), .pointer (some ⟨g3, 0, none⟩), s4, s5, .pointer (some ⟨g6, 0, none⟩), s7, s8, s9, s10, s11, s12, s13, fy, .int .u64 seed, .agg x.cells.toArray, u17, u18, u19, u20], defers := [] } V := by
    intro V hV
    have hR : Region.ready .any opsY #[true, true, true, false, false, false, false] = [3, 4] := by kernel_rfl
    refine ⟨fun e => (by rw [hR] at e; cases e), fun i hi => ?_⟩
    rw [hR] at hi
    simp only [List.mem_cons, List.not_mem_nil, or_false] at hi
    rcases hi with rfl | rfl
    · exact opIn_call hF rfl rfl (by intro c h; cases h) 38 #[.int .u64 seed, .agg x.cells.toArray] V (exec_sum _ _ rfl _ _ rfl rfl) ((hq V hV).mono fun e V1 h1 => ⟨_, h1.1, S0123_ V1 h1.2⟩)
    · exact opIn_val hF rfl rfl (by intro c h; cases h) _ V (exec_load_am _ rfl g6 x rfl (h6 V hV) hx) (S0124_ V hV)
  have S123_ : ∀ V, C V → wpAnyIn F n Tryz.prog .any opsY Q 4 #[false, true, true, true, false, false, false] { tmps := #[s0, s1, .pointer (some ⟨gs, 0, none⟩), .pointer (some ⟨g3, 0, none⟩), s4, s5, .pointer (some ⟨g6, 0, none⟩), s7, s8, s9, s10, s11, s12, s13, u14, .int .u64 seed, .agg x.cells.toArray, .int .u64 q, u18, u19, u20], defers := [] } V := by
    intro V hV
    have hR : Region.ready .any opsY #[false, true, true, true, false, false, false] = [0, 4] := by kernel_rfl
    refine ⟨fun e => (by rw [hR] at e; cases e), fun i hi => ?_⟩
    rw [hR] at hi
    simp only [List.mem_cons, List.not_mem_nil, or_false] at hi
    rcases hi with rfl | rfl
    · exact opIn_val hF rfl rfl (by intro c h; cases h) _ V (exec_load_fn _ rfl g3 fy rfl (h3 V hV)) (S0123_ V hV)
    · exact opIn_val hF rfl rfl (by intro c h; cases h) _ V (exec_load_am _ rfl g6 x rfl (h6 V hV) hx) (S1234_ V hV)
  have S014_ : ∀ V, C V → wpAnyIn F n Tryz.prog .any opsY Q 4 #[true, true, false, false, true, false, false] { tmps := #[s0, s1, .pointer (some ⟨gs, 0, none⟩), .pointer (some ⟨g3, 0, none⟩), s4, s5, .pointer (some ⟨g6, 0, none⟩), s7, s8, s9, s10, s11, s12, s13, fy, .int .u64 seed, u16, u17, .agg x.cells.toArray, u19, u20], defers := [] } V := by
    intro V hV
    have hR : Region.ready .any opsY #[true, true, false, false, true, false, false] = [2] := by kernel_rfl
    refine ⟨fun e => (by rw [hR] at e; cases e), fun i hi => ?_⟩
    rw [hR] at hi
    obtain rfl := List.mem_singleton.1 hi
    exact opIn_val hF rfl rfl (by intro c h; cases h) _ V (exec_load_am _ rfl g6 x rfl (h6 V hV) hx) (S0124_ V hV)
  have S024_ : ∀ V, C V → wpAnyIn F n Tryz.prog .any opsY Q 4 #[true, false, true, false, true, false, false] { tmps := #[s0, s1, .pointer (some ⟨gs, 0, none⟩), .pointer (some ⟨g3, 0, none⟩), s4, s5, .pointer (some ⟨g6, 0, none⟩), s7, s8, s9, s10, s11, s12, s13, fy, u15, .agg x.cells.toArray, u17, .agg x.cells.toArray, u19, u20], defers := [] } V := by
    intro V hV
    have hR : Region.ready .any opsY #[true, false, true, false, true, false, false] = [1] := by kernel_rfl
    refine ⟨fun e => (by rw [hR] at e; cases e), fun i hi => ?_⟩
    rw [hR] at hi
    obtain rfl := List.mem_singleton.1 hi
    exact opIn_val hF rfl rfl (by intro c h; cases h) _ V (exec_load_num _ rfl gs 0 seed rfl ((hs V hV).cell (i := 0) rfl)) (S0124_ V hV)
  have S124_ : ∀ V, C V → wpAnyIn F n Tryz.prog .any opsY Q 4 #[false, true, true, false, true, false, false] { tmps := #[s0, s1, .pointer (some ⟨gs, 0, none⟩), .pointer (some ⟨g3, 0, none⟩), s4, s5, .pointer (some ⟨g6, 0, none⟩), s7, s8, s9, s10, s11, s12, s13, u14, .int .u64 seed, .agg x.cells.toArray, u17, .agg x.cells.toArray, u19, u20], defers := [] } V := by
    intro V hV
    have hR : Region.ready .any opsY #[false, true, true, false, true, false, false] = [0, 3] := by kernel_rfl
    refine ⟨fun e => (by rw [hR] at e; cases e), fun i hi => ?_⟩
    rw [hR] at hi
    simp only [List.mem_cons, List.not_mem_nil, or_false] at hi
    rcases hi with rfl | rfl
    · exact opIn_val hF rfl rfl (by intro c h; cases h) _ V (exec_load_fn _ rfl g3 fy rfl (h3 V hV)) (S0124_ V hV)
    · exact opIn_call hF rfl rfl (by intro c h; cases h) 38 #[.int .u64 seed, .agg x.cells.toArray] V (exec_sum _ _ rfl _ _ rfl rfl) ((hq V hV).mono fun e V1 h1 => ⟨_, h1.1, S1234_ V1 h1.2⟩)
  have S01_ : ∀ V, C V → wpAnyIn F n Tryz.prog .any opsY Q 5 #[true, true, false, false, false, false, false] { tmps := #[s0, s1, .pointer (some ⟨gs, 0, none⟩), .pointer (some ⟨g3, 0, none⟩), s4, s5, .pointer (some ⟨g6, 0, none⟩), s7, s8, s9, s10, s11, s12, s13, fy, .int .u64 seed, u16, u17, u18, u19, u20], defers := [] } V := by
    intro V hV
    have hR : Region.ready .any opsY #[true, true, false, false, false, false, false] = [2, 4] := by kernel_rfl
    refine ⟨fun e => (by rw [hR] at e; cases e), fun i hi => ?_⟩
    rw [hR] at hi
    simp only [List.mem_cons, List.not_mem_nil, or_false] at hi
    rcases hi with rfl | rfl
    · exact opIn_val hF rfl rfl (by intro c h; cases h) _ V (exec_load_am _ rfl g6 x rfl (h6 V hV) hx) (S012_ V hV)
    · exact opIn_val hF rfl rfl (by intro c h; cases h) _ V (exec_load_am _ rfl g6 x rfl (h6 V hV) hx) (S014_ V hV)
  have S02_ : ∀ V, C V → wpAnyIn F n Tryz.prog .any opsY Q 5 #[true, false, true, false, false, false, false] { tmps := #[s0, s1, .pointer (some ⟨gs, 0, none⟩), .pointer (some ⟨g3, 0, none⟩), s4, s5, .pointer (some ⟨g6, 0, none⟩), s7, s8, s9, s10, s11, s12, s13, fy, u15, .agg x.cells.toArray, u17, u18, u19, u20], defers := [] } V := by
    intro V hV
    have hR : Region.ready .any opsY #[true, false, true, false, false, false, false] = [1, 4] := by kernel_rfl
    refine ⟨fun e => (by rw [hR] at e; cases e), fun i hi => ?_⟩
    rw [hR] at hi
    simp only [List.mem_cons, List.not_mem_nil, or_false] at hi
    rcases hi with rfl | rfl
    · exact opIn_val hF rfl rfl (by intro c h; cases h) _ V (exec_load_num _ rfl gs 0 seed rfl ((hs V hV).cell (i := 0) rfl)) (S012_ V hV)
    · exact opIn_val hF rfl rfl (by intro c h; cases h) _ V (exec_load_am _ rfl g6 x rfl (h6 V hV) hx) (S024_ V hV)
  have S12_ : ∀ V, C V → wpAnyIn F n Tryz.prog .any opsY Q 5 #[false, true, true, false, false, false, false] { tmps := #[s0, s1, .pointer (some ⟨gs, 0, none⟩), .pointer (some ⟨g3, 0, none⟩), s4, s5, .pointer (some ⟨g6, 0, none⟩), s7, s8, s9, s10, s11, s12, s13, u14, .int .u64 seed, .agg x.cells.toArray, u17, u18, u19, u20], defers := [] } V := by
    intro V hV
    have hR : Region.ready .any opsY #[false, true, true, false, false, false, false] = [0, 3, 4] := by kernel_rfl
    refine ⟨fun e => (by rw [hR] at e; cases e), fun i hi => ?_⟩
    rw [hR] at hi
    simp only [List.mem_cons, List.not_mem_nil, or_false] at hi
    rcases hi with rfl | rfl | rfl
    · exact opIn_val hF rfl rfl (by intro c h; cases h) _ V (exec_load_fn _ rfl g3 fy rfl (h3 V hV)) (S012_ V hV)
    · exact opIn_call hF rfl rfl (by intro c h; cases h) 38 #[.int .u64 seed, .agg x.cells.toArray] V (exec_sum _ _ rfl _ _ rfl rfl) ((hq V hV).mono fun e V1 h1 => ⟨_, h1.1, S123_ V1 h1.2⟩)
    · exact opIn_val hF rfl rfl (by intro c h; cases h) _ V (exec_load_am _ rfl g6 x rfl (h6 V hV) hx) (S124_ V hV)
  have S04_ : ∀ V, C V → wpAnyIn F n Tryz.prog .any opsY Q 5 #[true, false, false, false, true, false, false] { tmps := #[s0, s1, .pointer (some ⟨gs, 0, none⟩), .pointer (some ⟨g3, 0, none⟩), s4, s5, .pointer (some ⟨g6, 0, none⟩), s7, s8, s9, s10, s11, s12, s13, fy, u15, u16, u17, .agg x.cells.toArray, u19, u20], defers := [] } V := by
    intro V hV
    have hR : Region.ready .any opsY #[true, false, false, false, true, false, false] = [1, 2] := by kernel_rfl
    refine ⟨fun e => (by rw [hR] at e; cases e), fun i hi => ?_⟩
    rw [hR] at hi
    simp only [List.mem_cons, List.not_mem_nil, or_false] at hi
    rcases hi with rfl | rfl
    · exact opIn_val hF rfl rfl (by intro c h; cases h) _ V (exec_load_num _ rfl gs 0 seed rfl ((hs V hV).cell (i := 0) rfl)) (S014_ V hV)
    · exact opIn_val hF rfl rfl (by intro c h; cases h) _ V (exec_load_am _ rfl g6 x rfl (h6 V hV) hx) (S024_ V hV)
  have S14_ : ∀ V, C V → wpAnyIn F n Tryz.prog .any opsY Q 5 #[false, true, false, false, true, false, false] { tmps := #[s0, s1, .pointer (some ⟨gs, 0, none⟩), .pointer (some ⟨g3, 0, none⟩), s4, s5, .pointer (some ⟨g6, 0, none⟩), s7, s8, s9, s10, s11, s12, s13, u14, .int .u64 seed, u16, u17, .agg x.cells.toArray, u19, u20], defers := [] } V := by
    intro V hV
    have hR : Region.ready .any opsY #[false, true, false, false, true, false, false] = [0, 2] := by kernel_rfl
    refine ⟨fun e => (by rw [hR] at e; cases e), fun i hi => ?_⟩
    rw [hR] at hi
    simp only [List.mem_cons, List.not_mem_nil, or_false] at hi
    rcases hi with rfl | rfl
    · exact opIn_val hF rfl rfl (by intro c h; cases h) _ V (exec_load_fn _ rfl g3 fy rfl (h3 V hV)) (S014_ V hV)
    · exact opIn_val hF rfl rfl (by intro c h; cases h) _ V (exec_load_am _ rfl g6 x rfl (h6 V hV) hx) (S124_ V hV)
  have S24_ : ∀ V, C V → wpAnyIn F n Tryz.prog .any opsY Q 5 #[false, false, true, false, true, false, false] { tmps := #[s0, s1, .pointer (some ⟨gs, 0, none⟩), .pointer (some ⟨g3, 0, none⟩), s4, s5, .pointer (some ⟨g6, 0, none⟩), s7, s8, s9, s10, s11, s12, s13, u14, u15, .agg x.cells.toArray, u17, .agg x.cells.toArray, u19, u20], defers := [] } V := by
    intro V hV
    have hR : Region.ready .any opsY #[false, false, true, false, true, false, false] = [0, 1] := by kernel_rfl
    refine ⟨fun e => (by rw [hR] at e; cases e), fun i hi => ?_⟩
    rw [hR] at hi
    simp only [List.mem_cons, List.not_mem_nil, or_false] at hi
    rcases hi with rfl | rfl
    · exact opIn_val hF rfl rfl (by intro c h; cases h) _ V (exec_load_fn _ rfl g3 fy rfl (h3 V hV)) (S024_ V hV)
    · exact opIn_val hF rfl rfl (by intro c h; cases h) _ V (exec_load_num _ rfl gs 0 seed rfl ((hs V hV).cell (i := 0) rfl)) (S124_ V hV)
  have S0_ : ∀ V, C V → wpAnyIn F n Tryz.prog .any opsY Q 6 #[true, false, false, false, false, false, false] { tmps := #[s0, s1, .pointer (some ⟨gs, 0, none⟩), .pointer (some ⟨g3, 0, none⟩), s4, s5, .pointer (some ⟨g6, 0, none⟩), s7, s8, s9, s10, s11, s12, s13, fy, u15, u16, u17, u18, u19, u20], defers := [] } V := by
    intro V hV
    have hR : Region.ready .any opsY #[true, false, false, false, false, false, false] = [1, 2, 4] := by kernel_rfl
    refine ⟨fun e => (by rw [hR] at e; cases e), fun i hi => ?_⟩
    rw [hR] at hi
    simp only [List.mem_cons, List.not_mem_nil, or_false] at hi
    rcases hi with rfl | rfl | rfl
    · exact opIn_val hF rfl rfl (by intro c h; cases h) _ V (exec_load_num _ rfl gs 0 seed rfl ((hs V hV).cell (i := 0) rfl)) (S01_ V hV)
    · exact opIn_val hF rfl rfl (by intro c h; cases h) _ V (exec_load_am _ rfl g6 x rfl (h6 V hV) hx) (S02_ V hV)
    · exact opIn_val hF rfl rfl (by intro c h; cases h) _ V (exec_load_am _ rfl g6 x rfl (h6 V hV) hx) (S04_ V hV)
  have S1_ : ∀ V, C V → wpAnyIn F n Tryz.prog .any opsY Q 6 #[false, true, false, false, false, false, false] { tmps := #[s0, s1, .pointer (some ⟨gs, 0, none⟩), .pointer (some ⟨g3, 0, none⟩), s4, s5, .pointer (some ⟨g6, 0, none⟩), s7, s8, s9, s10, s11, s12, s13, u14, .int .u64 seed, u16, u17, u18, u19, u20], defers := [] } V := by
    intro V hV
    have hR : Region.ready .any opsY #[false, true, false, false, false, false, false] = [0, 2, 4] := by kernel_rfl
    refine ⟨fun e => (by rw [hR] at e; cases e), fun i hi => ?_⟩
    rw [hR] at hi
    simp only [List.mem_cons, List.not_mem_nil, or_false] at hi
    rcases hi with rfl | rfl | rfl
    · exact opIn_val hF rfl rfl (by intro c h; cases h) _ V (exec_load_fn _ rfl g3 fy rfl (h3 V hV)) (S01_ V hV)
    · exact opIn_val hF rfl rfl (by intro c h; cases h) _ V (exec_load_am _ rfl g6 x rfl (h6 V hV) hx) (S12_ V hV)
    · exact opIn_val hF rfl rfl (by intro c h; cases h) _ V (exec_load_am _ rfl g6 x rfl (h6 V hV) hx) (S14_ V hV)
  have S2_ : ∀ V, C V → wpAnyIn F n Tryz.prog .any opsY Q 6 #[false, false, true, false, false, false, false] { tmps := #[s0, s1, .pointer (some ⟨gs, 0, none⟩), .pointer (some ⟨g3, 0, none⟩), s4, s5, .pointer (some ⟨g6, 0, none⟩), s7, s8, s9, s10, s11, s12, s13, u14, u15, .agg x.cells.toArray, u17, u18, u19, u20], defers := [] } V := by
    intro V hV
    have hR : Region.ready .any opsY #[false, false, true, false, false, false, false] = [0, 1, 4] := by kernel_rfl
    refine ⟨fun e => (by rw [hR] at e; cases e), fun i hi => ?_⟩
    rw [hR] at hi
    simp only [List.mem_cons, List.not_mem_nil, or_false] at hi
    rcases hi with rfl | rfl | rfl
    · exact opIn_val hF rfl rfl (by intro c h; cases h) _ V (exec_load_fn _ rfl g3 fy rfl (h3 V hV)) (S02_ V hV)
    · exact opIn_val hF rfl rfl (by intro c h; cases h) _ V (exec_load_num _ rfl gs 0 seed rfl ((hs V hV).cell (i := 0) rfl)) (S12_ V hV)
    · exact opIn_val hF rfl rfl (by intro c h; cases h) _ V (exec_load_am _ rfl g6 x rfl (h6 V hV) hx) (S24_ V hV)
  have S4_ : ∀ V, C V → wpAnyIn F n Tryz.prog .any opsY Q 6 #[false, false, false, false, true, false, false] { tmps := #[s0, s1, .pointer (some ⟨gs, 0, none⟩), .pointer (some ⟨g3, 0, none⟩), s4, s5, .pointer (some ⟨g6, 0, none⟩), s7, s8, s9, s10, s11, s12, s13, u14, u15, u16, u17, .agg x.cells.toArray, u19, u20], defers := [] } V := by
    intro V hV
    have hR : Region.ready .any opsY #[false, false, false, false, true, false, false] = [0, 1, 2] := by kernel_rfl
    refine ⟨fun e => (by rw [hR] at e; cases e), fun i hi => ?_⟩
    rw [hR] at hi
    simp only [List.mem_cons, List.not_mem_nil, or_false] at hi
    rcases hi with rfl | rfl | rfl
    · exact opIn_val hF rfl rfl (by intro c h; cases h) _ V (exec_load_fn _ rfl g3 fy rfl (h3 V hV)) (S04_ V hV)
    · exact opIn_val hF rfl rfl (by intro c h; cases h) _ V (exec_load_num _ rfl gs 0 seed rfl ((hs V hV).cell (i := 0) rfl)) (S14_ V hV)
    · exact opIn_val hF rfl rfl (by intro c h; cases h) _ V (exec_load_am _ rfl g6 x rfl (h6 V hV) hx) (S24_ V hV)
  have S_ : ∀ V, C V → wpAnyIn F n Tryz.prog .any opsY Q 7 #[false, false, false, false, false, false, false] { tmps := #[s0, s1, .pointer (some ⟨gs, 0, none⟩), .pointer (some ⟨g3, 0, none⟩), s4, s5, .pointer (some ⟨g6, 0, none⟩), s7, s8, s9, s10, s11, s12, s13, u14, u15, u16, u17, u18, u19, u20], defers := [] } V := by
    intro V hV
    have hR : Region.ready .any opsY #[false, false, false, false, false, false, false] = [0, 1, 2, 4] := by kernel_rfl
    refine ⟨fun e => (by rw [hR] at e; cases e), fun i hi => ?_⟩
    rw [hR] at hi
    simp only [List.mem_cons, List.not_mem_nil, or_false] at hi
    rcases hi with rfl | rfl | rfl | rfl
    · exact opIn_val hF rfl rfl (by intro c h; cases h) _ V (exec_load_fn _ rfl g3 fy rfl (h3 V hV)) (S0_ V hV)
    · exact opIn_val hF rfl rfl (by intro c h; cases h) _ V (exec_load_num _ rfl gs 0 seed rfl ((hs V hV).cell (i := 0) rfl)) (S1_ V hV)
    · exact opIn_val hF rfl rfl (by intro c h; cases h) _ V (exec_load_am _ rfl g6 x rfl (h6 V hV) hx) (S2_ V hV)
    · exact opIn_val hF rfl rfl (by intro c h; cases h) _ V (exec_load_am _ rfl g6 x rfl (h6 V hV) hx) (S4_ V hV)
  exact S_
end Go.Proofs.YtnpbmihbmilkbaaGreat
