/- The contracts of Fail and In of the reference, path by path. The contract of Right of the reference. -/
import Derived.Test.YtnpbmihbmilkbaaGreatG10
namespace Go.Proofs.YtnpbmihbmilkbaaGreat
open Go.RowKit
theorem eqg24 : Tryz.prog.eqGuardType Tryz.prog.depth 40 = false := by kernel_rfl
theorem built24z : Tryz.prog.built 40 [] = some (nm M.zero8) := by kernel_rfl
theorem exec_eq_nm {o : Oper} {a : Act} {w : World} (x y : Operand) (ty : TypeId) (ho : o.op = .binOp .eql 40 x y ty) (m n : List Int) (hx : a.eval x = .agg (nm m)) (hy : a.eval y = .agg (nm n)) (hm : m.length = 8) (hn : n.length = 8) :
    (execOp a.eval o).run Tryz.prog w = .ok (.value (.bool (m == n))) w := by
  unfold execOp
  simp only [ho, hx, hy, Sem.run_bind, run_eqGuard_agg w .eql 40 x y _ _ eqg24, Result.andThen_ok, run_eql_struct, eql23 m n hm hn 9998 w, Sem.run_pure]
/- PATHS -/
end Go.Proofs.YtnpbmihbmilkbaaGreat
namespace Go.Proofs.YtnpbmihbmilkbaaGreat
open Go.RowKit
theorem exec_bare {o : Oper} {a : Act} {w : World} {x y : Operand} {ty : TypeId} {m : List Int} {p : Bool} (hm : m.length = 8) (hp : (m == M.zero8) = p) (ho : o.op = .binOp .eql 40 x y ty) (hx : a.eval x = .agg (nm m)) (hy : a.eval y = .agg (nm M.zero8)) :
    (execOp a.eval o).run Tryz.prog w = .ok (.value (.bool p)) w := hp ▸ exec_eq_nm x y ty ho m M.zero8 hx hy hm rfl
theorem bare_is {p : Bool} {v : Vl} (h : (v.t == M.zero8) = p) : (!(v.t != M.zero8)) = p := by rw [← h]; simp [bne]
set_option maxRecDepth 100000 in
set_option maxHeartbeats 1000000 in
theorem raright_no (a : Am) (b : Bool) (w : World) (ha : a.Ok) (hk : Hid (a.k.right = false)) (hb : b = false) : Calls Tryz.prog 33 #[.agg a.cells.toArray] w fun e w' => e = .returned (.bool b) ∧ Below w.heap.size w w' := by
  have S0 := Lib.hid (as_new w a)
  have HA := Lib.hid ha
  subst hb
  clear ha
  go_enter Tryz.func33, Tryz.ntmps33
  go_wp2_with (refine wpList_load_ky rfl _ rfl w.heap.size 0 a.k rfl S0.out.blk.ak HA.out.k.ml ?_)
  refine (refKright_is a.k false _ HA.out.k hk).mono ?_
  rintro e w1 ⟨rfl, b1⟩
  have S1 := Lib.hid (S0.out.below b1)
  have c0 := S1.out.blk.cell (ac0 a)
  have c12 := S1.out.blk.cell (ac12 HA.out)
  clear b1
  go_wp2_with fail
  go_ret
  exact ⟨rfl, S1.out.bel⟩
set_option maxRecDepth 100000 in
set_option maxHeartbeats 1000000 in
theorem raright_1f (a : Am) (b : Bool) (w : World) (ha : a.Ok) (hk : Hid (a.k.right = true)) (hs : Hid (a.k.s = 1)) (p : Bool) (hp : Hid ((a.v.t == M.zero8) = p)) (hp0 : p = false) (hb : b = false) : Calls Tryz.prog 33 #[.agg a.cells.toArray] w fun e w' => e = .returned (.bool b) ∧ Below w.heap.size w w' := by
  have S0 := Lib.hid (as_new w a)
  have HA := Lib.hid ha
  subst hb
  subst hp0
  clear ha
  go_enter Tryz.func33, Tryz.ntmps33
  go_wp2_with (refine wpList_load_ky rfl _ rfl w.heap.size 0 a.k rfl S0.out.blk.ak HA.out.k.ml ?_)
  refine (refKright_is a.k true _ HA.out.k hk).mono ?_
  rintro e w1 ⟨rfl, b1⟩
  have S1 := Lib.hid (S0.out.below b1)
  have c0 := S1.out.blk.cell (ac0 a)
  have c12 := S1.out.blk.cell (ac12 HA.out)
  clear b1
  rw [hs.out] at c0
  go_wp2_with (first
    | go_skip
    | refine wpList_load_nm rfl _ rfl w.heap.size 13 a.v.t rfl (S1.out.blk.avt HA.out) HA.out.v.tl ?_
    | refine wpList_build rfl 40 _ rfl [] rfl _ built24z ?_
    | refine wpList_val rfl (.bool false) (exec_bare HA.out.v.tl hp.out rfl rfl rfl) ?_)
  go_ret
  exact ⟨rfl, S1.out.bel⟩
set_option maxRecDepth 100000 in
set_option maxHeartbeats 1000000 in
theorem raright_1a (a : Am) (b : Bool) (w : World) (ha : a.Ok) (hk : Hid (a.k.right = true)) (hs : Hid (a.k.s = 1)) (hp : Hid ((a.v.t == M.zero8) = true)) (e1 : (a.v.n == 1) = true) (hb : b = true) : Calls Tryz.prog 33 #[.agg a.cells.toArray] w fun e w' => e = .returned (.bool b) ∧ Below w.heap.size w w' := by
  have S0 := Lib.hid (as_new w a)
  have HA := Lib.hid ha
  subst hb
  clear ha
  go_enter Tryz.func33, Tryz.ntmps33
  go_wp2_with (refine wpList_load_ky rfl _ rfl w.heap.size 0 a.k rfl S0.out.blk.ak HA.out.k.ml ?_)
  refine (refKright_is a.k true _ HA.out.k hk).mono ?_
  rintro e w1 ⟨rfl, b1⟩
  have S1 := Lib.hid (S0.out.below b1)
  have c0 := S1.out.blk.cell (ac0 a)
  have c12 := S1.out.blk.cell (ac12 HA.out)
  clear b1
  rw [hs.out] at c0
  go_wp2_with (first
    | go_skip
    | refine wpList_load_nm rfl _ rfl w.heap.size 13 a.v.t rfl (S1.out.blk.avt HA.out) HA.out.v.tl ?_
    | refine wpList_build rfl 40 _ rfl [] rfl _ built24z ?_
    | refine wpList_val rfl (.bool true) (exec_bare HA.out.v.tl hp.out rfl rfl rfl) ?_)
  go_ret
  exact ⟨rfl, S1.out.bel⟩
set_option maxRecDepth 100000 in
set_option maxHeartbeats 1000000 in
theorem raright_1b (a : Am) (b : Bool) (w : World) (ha : a.Ok) (hk : Hid (a.k.right = true)) (hs : Hid (a.k.s = 1)) (hp : Hid ((a.v.t == M.zero8) = true)) (e1 : (a.v.n == 1) = false) (hb : (a.v.n == 2) = b) : Calls Tryz.prog 33 #[.agg a.cells.toArray] w fun e w' => e = .returned (.bool b) ∧ Below w.heap.size w w' := by
  have S0 := Lib.hid (as_new w a)
  have HA := Lib.hid ha
  subst hb
  clear ha
  go_enter Tryz.func33, Tryz.ntmps33
  go_wp2_with (refine wpList_load_ky rfl _ rfl w.heap.size 0 a.k rfl S0.out.blk.ak HA.out.k.ml ?_)
  refine (refKright_is a.k true _ HA.out.k hk).mono ?_
  rintro e w1 ⟨rfl, b1⟩
  have S1 := Lib.hid (S0.out.below b1)
  have c0 := S1.out.blk.cell (ac0 a)
  have c12 := S1.out.blk.cell (ac12 HA.out)
  clear b1
  rw [hs.out] at c0
  go_wp2_with (first
    | go_skip
    | refine wpList_load_nm rfl _ rfl w.heap.size 13 a.v.t rfl (S1.out.blk.avt HA.out) HA.out.v.tl ?_
    | refine wpList_build rfl 40 _ rfl [] rfl _ built24z ?_
    | refine wpList_val rfl (.bool true) (exec_bare HA.out.v.tl hp.out rfl rfl rfl) ?_)
  go_ret
  exact ⟨rfl, S1.out.bel⟩
set_option maxRecDepth 100000 in
set_option maxHeartbeats 1000000 in
theorem raright_2f (a : Am) (b : Bool) (w : World) (ha : a.Ok) (hk : Hid (a.k.right = true)) (hs : Hid (a.k.s = 2)) (p : Bool) (hp : Hid ((a.v.t == M.zero8) = p)) (hp0 : p = false) (hb : b = false) : Calls Tryz.prog 33 #[.agg a.cells.toArray] w fun e w' => e = .returned (.bool b) ∧ Below w.heap.size w w' := by
  have S0 := Lib.hid (as_new w a)
  have HA := Lib.hid ha
  subst hb
  subst hp0
  clear ha
  go_enter Tryz.func33, Tryz.ntmps33
  go_wp2_with (refine wpList_load_ky rfl _ rfl w.heap.size 0 a.k rfl S0.out.blk.ak HA.out.k.ml ?_)
  refine (refKright_is a.k true _ HA.out.k hk).mono ?_
  rintro e w1 ⟨rfl, b1⟩
  have S1 := Lib.hid (S0.out.below b1)
  have c0 := S1.out.blk.cell (ac0 a)
  have c12 := S1.out.blk.cell (ac12 HA.out)
  clear b1
  rw [hs.out] at c0
  go_wp2_with (first
    | go_skip
    | refine wpList_load_nm rfl _ rfl w.heap.size 13 a.v.t rfl (S1.out.blk.avt HA.out) HA.out.v.tl ?_
    | refine wpList_build rfl 40 _ rfl [] rfl _ built24z ?_
    | refine wpList_val rfl (.bool false) (exec_bare HA.out.v.tl hp.out rfl rfl rfl) ?_)
  go_ret
  exact ⟨rfl, S1.out.bel⟩
set_option maxRecDepth 100000 in
set_option maxHeartbeats 1000000 in
theorem raright_2a (a : Am) (b : Bool) (w : World) (ha : a.Ok) (hk : Hid (a.k.right = true)) (hs : Hid (a.k.s = 2)) (hp : Hid ((a.v.t == M.zero8) = true)) (e1 : 1 ≤ a.v.n) (hb : decide (a.v.n ≤ 4294967295) = b) : Calls Tryz.prog 33 #[.agg a.cells.toArray] w fun e w' => e = .returned (.bool b) ∧ Below w.heap.size w w' := by
  have S0 := Lib.hid (as_new w a)
  have HA := Lib.hid ha
  subst hb
  clear ha
  go_enter Tryz.func33, Tryz.ntmps33
  go_wp2_with (refine wpList_load_ky rfl _ rfl w.heap.size 0 a.k rfl S0.out.blk.ak HA.out.k.ml ?_)
  refine (refKright_is a.k true _ HA.out.k hk).mono ?_
  rintro e w1 ⟨rfl, b1⟩
  have S1 := Lib.hid (S0.out.below b1)
  have c0 := S1.out.blk.cell (ac0 a)
  have c12 := S1.out.blk.cell (ac12 HA.out)
  clear b1
  rw [hs.out] at c0
  go_wp2_with (first
    | go_skip
    | refine wpList_load_nm rfl _ rfl w.heap.size 13 a.v.t rfl (S1.out.blk.avt HA.out) HA.out.v.tl ?_
    | refine wpList_build rfl 40 _ rfl [] rfl _ built24z ?_
    | refine wpList_val rfl (.bool true) (exec_bare HA.out.v.tl hp.out rfl rfl rfl) ?_)
  go_ret
  exact ⟨rfl, S1.out.bel⟩
set_option maxRecDepth 100000 in
set_option maxHeartbeats 1000000 in
theorem raright_2b (a : Am) (b : Bool) (w : World) (ha : a.Ok) (hk : Hid (a.k.right = true)) (hs : Hid (a.k.s = 2)) (hp : Hid ((a.v.t == M.zero8) = true)) (e1 : ¬ 1 ≤ a.v.n) (hb : b = false) : Calls Tryz.prog 33 #[.agg a.cells.toArray] w fun e w' => e = .returned (.bool b) ∧ Below w.heap.size w w' := by
  have S0 := Lib.hid (as_new w a)
  have HA := Lib.hid ha
  subst hb
  clear ha
  go_enter Tryz.func33, Tryz.ntmps33
  go_wp2_with (refine wpList_load_ky rfl _ rfl w.heap.size 0 a.k rfl S0.out.blk.ak HA.out.k.ml ?_)
  refine (refKright_is a.k true _ HA.out.k hk).mono ?_
  rintro e w1 ⟨rfl, b1⟩
  have S1 := Lib.hid (S0.out.below b1)
  have c0 := S1.out.blk.cell (ac0 a)
  have c12 := S1.out.blk.cell (ac12 HA.out)
  clear b1
  rw [hs.out] at c0
  go_wp2_with (first
    | go_skip
    | refine wpList_load_nm rfl _ rfl w.heap.size 13 a.v.t rfl (S1.out.blk.avt HA.out) HA.out.v.tl ?_
    | refine wpList_build rfl 40 _ rfl [] rfl _ built24z ?_
    | refine wpList_val rfl (.bool true) (exec_bare HA.out.v.tl hp.out rfl rfl rfl) ?_)
  go_ret
  exact ⟨rfl, S1.out.bel⟩
set_option maxRecDepth 100000 in
set_option maxHeartbeats 1000000 in
theorem raright_3f (a : Am) (b : Bool) (w : World) (ha : a.Ok) (hk : Hid (a.k.right = true)) (hs : Hid (a.k.s = 3)) (p : Bool) (hp : Hid ((a.v.t == M.zero8) = p)) (hp0 : p = false) (hb : b = false) : Calls Tryz.prog 33 #[.agg a.cells.toArray] w fun e w' => e = .returned (.bool b) ∧ Below w.heap.size w w' := by
  have S0 := Lib.hid (as_new w a)
  have HA := Lib.hid ha
  subst hb
  subst hp0
  clear ha
  go_enter Tryz.func33, Tryz.ntmps33
  go_wp2_with (refine wpList_load_ky rfl _ rfl w.heap.size 0 a.k rfl S0.out.blk.ak HA.out.k.ml ?_)
  refine (refKright_is a.k true _ HA.out.k hk).mono ?_
  rintro e w1 ⟨rfl, b1⟩
  have S1 := Lib.hid (S0.out.below b1)
  have c0 := S1.out.blk.cell (ac0 a)
  have c12 := S1.out.blk.cell (ac12 HA.out)
  clear b1
  rw [hs.out] at c0
  go_wp2_with (first
    | go_skip
    | refine wpList_load_nm rfl _ rfl w.heap.size 13 a.v.t rfl (S1.out.blk.avt HA.out) HA.out.v.tl ?_
    | refine wpList_build rfl 40 _ rfl [] rfl _ built24z ?_
    | refine wpList_val rfl (.bool false) (exec_bare HA.out.v.tl hp.out rfl rfl rfl) ?_)
  go_ret
  exact ⟨rfl, S1.out.bel⟩
set_option maxRecDepth 100000 in
set_option maxHeartbeats 1000000 in
theorem raright_3a (a : Am) (b : Bool) (w : World) (ha : a.Ok) (hk : Hid (a.k.right = true)) (hs : Hid (a.k.s = 3)) (hp : Hid ((a.v.t == M.zero8) = true)) (e1 : 1 ≤ a.v.n) (hb : decide (a.v.n ≤ 4294967295) = b) : Calls Tryz.prog 33 #[.agg a.cells.toArray] w fun e w' => e = .returned (.bool b) ∧ Below w.heap.size w w' := by
  have S0 := Lib.hid (as_new w a)
  have HA := Lib.hid ha
  subst hb
  clear ha
  go_enter Tryz.func33, Tryz.ntmps33
  go_wp2_with (refine wpList_load_ky rfl _ rfl w.heap.size 0 a.k rfl S0.out.blk.ak HA.out.k.ml ?_)
  refine (refKright_is a.k true _ HA.out.k hk).mono ?_
  rintro e w1 ⟨rfl, b1⟩
  have S1 := Lib.hid (S0.out.below b1)
  have c0 := S1.out.blk.cell (ac0 a)
  have c12 := S1.out.blk.cell (ac12 HA.out)
  clear b1
  rw [hs.out] at c0
  go_wp2_with (first
    | go_skip
    | refine wpList_load_nm rfl _ rfl w.heap.size 13 a.v.t rfl (S1.out.blk.avt HA.out) HA.out.v.tl ?_
    | refine wpList_build rfl 40 _ rfl [] rfl _ built24z ?_
    | refine wpList_val rfl (.bool true) (exec_bare HA.out.v.tl hp.out rfl rfl rfl) ?_)
  go_ret
  exact ⟨rfl, S1.out.bel⟩
set_option maxRecDepth 100000 in
set_option maxHeartbeats 1000000 in
theorem raright_3b (a : Am) (b : Bool) (w : World) (ha : a.Ok) (hk : Hid (a.k.right = true)) (hs : Hid (a.k.s = 3)) (hp : Hid ((a.v.t == M.zero8) = true)) (e1 : ¬ 1 ≤ a.v.n) (hb : b = false) : Calls Tryz.prog 33 #[.agg a.cells.toArray] w fun e w' => e = .returned (.bool b) ∧ Below w.heap.size w w' := by
  have S0 := Lib.hid (as_new w a)
  have HA := Lib.hid ha
  subst hb
  clear ha
  go_enter Tryz.func33, Tryz.ntmps33
  go_wp2_with (refine wpList_load_ky rfl _ rfl w.heap.size 0 a.k rfl S0.out.blk.ak HA.out.k.ml ?_)
  refine (refKright_is a.k true _ HA.out.k hk).mono ?_
  rintro e w1 ⟨rfl, b1⟩
  have S1 := Lib.hid (S0.out.below b1)
  have c0 := S1.out.blk.cell (ac0 a)
  have c12 := S1.out.blk.cell (ac12 HA.out)
  clear b1
  rw [hs.out] at c0
  go_wp2_with (first
    | go_skip
    | refine wpList_load_nm rfl _ rfl w.heap.size 13 a.v.t rfl (S1.out.blk.avt HA.out) HA.out.v.tl ?_
    | refine wpList_build rfl 40 _ rfl [] rfl _ built24z ?_
    | refine wpList_val rfl (.bool true) (exec_bare HA.out.v.tl hp.out rfl rfl rfl) ?_)
  go_ret
  exact ⟨rfl, S1.out.bel⟩
set_option maxRecDepth 100000 in
set_option maxHeartbeats 1000000 in
theorem raright_4a (a : Am) (b : Bool) (w : World) (ha : a.Ok) (hk : Hid (a.k.right = true)) (hs : Hid (a.k.s = 4)) (p : Bool) (hp : Hid ((a.v.t == M.zero8) = p)) (e1 : decide (a.v.n % 256 < 16) = false) (hb : b = false) : Calls Tryz.prog 33 #[.agg a.cells.toArray] w fun e w' => e = .returned (.bool b) ∧ Below w.heap.size w w' := by
  have S0 := Lib.hid (as_new w a)
  have HA := Lib.hid ha
  subst hb
  have n0 := ha.v.n0
  have d1 : a.v.n.tdiv 256 = a.v.n / 256 := Int.tdiv_eq_ediv_of_nonneg n0
  have d2 : IntKind.u64.wrap (a.v.n / 256) = a.v.n / 256 := by have := ha.v.n1; rw [IntKind.wrap_u64]; omega
  have d3 : a.v.n.tmod 256 = a.v.n % 256 := Int.tmod_eq_emod_of_nonneg n0
  clear ha
  go_enter Tryz.func33, Tryz.ntmps33
  go_wp2_with (refine wpList_load_ky rfl _ rfl w.heap.size 0 a.k rfl S0.out.blk.ak HA.out.k.ml ?_)
  refine (refKright_is a.k true _ HA.out.k hk).mono ?_
  rintro e w1 ⟨rfl, b1⟩
  have S1 := Lib.hid (S0.out.below b1)
  have c0 := S1.out.blk.cell (ac0 a)
  have c12 := S1.out.blk.cell (ac12 HA.out)
  clear b1
  rw [hs.out] at c0
  go_wp2_with (first
    | go_skip
    | refine wpList_load_nm rfl _ rfl w.heap.size 13 a.v.t rfl (S1.out.blk.avt HA.out) HA.out.v.tl ?_
    | refine wpList_build rfl 40 _ rfl [] rfl _ built24z ?_
    | refine wpList_val rfl (.bool p) (exec_bare HA.out.v.tl hp.out rfl rfl rfl) ?_)
  go_ret
  exact ⟨rfl, S1.out.bel⟩
set_option maxRecDepth 100000 in
set_option maxHeartbeats 1000000 in
theorem raright_4b (a : Am) (b : Bool) (w : World) (ha : a.Ok) (hk : Hid (a.k.right = true)) (hs : Hid (a.k.s = 4)) (p : Bool) (hp : Hid ((a.v.t == M.zero8) = p)) (e1 : decide (a.v.n % 256 < 16) = true) (e2 : decide (1 ≤ a.v.n / 256) = false) (hb : b = false) : Calls Tryz.prog 33 #[.agg a.cells.toArray] w fun e w' => e = .returned (.bool b) ∧ Below w.heap.size w w' := by
  have S0 := Lib.hid (as_new w a)
  have HA := Lib.hid ha
  subst hb
  have n0 := ha.v.n0
  have d1 : a.v.n.tdiv 256 = a.v.n / 256 := Int.tdiv_eq_ediv_of_nonneg n0
  have d2 : IntKind.u64.wrap (a.v.n / 256) = a.v.n / 256 := by have := ha.v.n1; rw [IntKind.wrap_u64]; omega
  have d3 : a.v.n.tmod 256 = a.v.n % 256 := Int.tmod_eq_emod_of_nonneg n0
  clear ha
  go_enter Tryz.func33, Tryz.ntmps33
  go_wp2_with (refine wpList_load_ky rfl _ rfl w.heap.size 0 a.k rfl S0.out.blk.ak HA.out.k.ml ?_)
  refine (refKright_is a.k true _ HA.out.k hk).mono ?_
  rintro e w1 ⟨rfl, b1⟩
  have S1 := Lib.hid (S0.out.below b1)
  have c0 := S1.out.blk.cell (ac0 a)
  have c12 := S1.out.blk.cell (ac12 HA.out)
  clear b1
  rw [hs.out] at c0
  go_wp2_with (first
    | go_skip
    | refine wpList_load_nm rfl _ rfl w.heap.size 13 a.v.t rfl (S1.out.blk.avt HA.out) HA.out.v.tl ?_
    | refine wpList_build rfl 40 _ rfl [] rfl _ built24z ?_
    | refine wpList_val rfl (.bool p) (exec_bare HA.out.v.tl hp.out rfl rfl rfl) ?_)
  go_ret
  exact ⟨rfl, S1.out.bel⟩
set_option maxRecDepth 100000 in
set_option maxHeartbeats 1000000 in
theorem raright_4c (a : Am) (b : Bool) (w : World) (ha : a.Ok) (hk : Hid (a.k.right = true)) (hs : Hid (a.k.s = 4)) (p : Bool) (hp : Hid ((a.v.t == M.zero8) = p)) (e1 : decide (a.v.n % 256 < 16) = true) (e2 : decide (1 ≤ a.v.n / 256) = true) (e3 : decide (a.v.n / 256 ≤ 4294967295) = false) (hb : b = false) : Calls Tryz.prog 33 #[.agg a.cells.toArray] w fun e w' => e = .returned (.bool b) ∧ Below w.heap.size w w' := by
  have S0 := Lib.hid (as_new w a)
  have HA := Lib.hid ha
  subst hb
  have n0 := ha.v.n0
  have d1 : a.v.n.tdiv 256 = a.v.n / 256 := Int.tdiv_eq_ediv_of_nonneg n0
  have d2 : IntKind.u64.wrap (a.v.n / 256) = a.v.n / 256 := by have := ha.v.n1; rw [IntKind.wrap_u64]; omega
  have d3 : a.v.n.tmod 256 = a.v.n % 256 := Int.tmod_eq_emod_of_nonneg n0
  clear ha
  go_enter Tryz.func33, Tryz.ntmps33
  go_wp2_with (refine wpList_load_ky rfl _ rfl w.heap.size 0 a.k rfl S0.out.blk.ak HA.out.k.ml ?_)
  refine (refKright_is a.k true _ HA.out.k hk).mono ?_
  rintro e w1 ⟨rfl, b1⟩
  have S1 := Lib.hid (S0.out.below b1)
  have c0 := S1.out.blk.cell (ac0 a)
  have c12 := S1.out.blk.cell (ac12 HA.out)
  clear b1
  rw [hs.out] at c0
  go_wp2_with (first
    | go_skip
    | refine wpList_load_nm rfl _ rfl w.heap.size 13 a.v.t rfl (S1.out.blk.avt HA.out) HA.out.v.tl ?_
    | refine wpList_build rfl 40 _ rfl [] rfl _ built24z ?_
    | refine wpList_val rfl (.bool p) (exec_bare HA.out.v.tl hp.out rfl rfl rfl) ?_)
  go_ret
  exact ⟨rfl, S1.out.bel⟩
set_option maxRecDepth 100000 in
set_option maxHeartbeats 1000000 in
theorem raright_4d (a : Am) (b : Bool) (w : World) (ha : a.Ok) (hk : Hid (a.k.right = true)) (hs : Hid (a.k.s = 4)) (p : Bool) (hp : Hid ((a.v.t == M.zero8) = p)) (e1 : decide (a.v.n % 256 < 16) = true) (e2 : decide (1 ≤ a.v.n / 256) = true) (e3 : decide (a.v.n / 256 ≤ 4294967295) = true) (hp1 : p = true) (hb : b = true) : Calls Tryz.prog 33 #[.agg a.cells.toArray] w fun e w' => e = .returned (.bool b) ∧ Below w.heap.size w w' := by
  have S0 := Lib.hid (as_new w a)
  have HA := Lib.hid ha
  subst hb
  subst hp1
  have n0 := ha.v.n0
  have d1 : a.v.n.tdiv 256 = a.v.n / 256 := Int.tdiv_eq_ediv_of_nonneg n0
  have d2 : IntKind.u64.wrap (a.v.n / 256) = a.v.n / 256 := by have := ha.v.n1; rw [IntKind.wrap_u64]; omega
  have d3 : a.v.n.tmod 256 = a.v.n % 256 := Int.tmod_eq_emod_of_nonneg n0
  clear ha
  go_enter Tryz.func33, Tryz.ntmps33
  go_wp2_with (refine wpList_load_ky rfl _ rfl w.heap.size 0 a.k rfl S0.out.blk.ak HA.out.k.ml ?_)
  refine (refKright_is a.k true _ HA.out.k hk).mono ?_
  rintro e w1 ⟨rfl, b1⟩
  have S1 := Lib.hid (S0.out.below b1)
  have c0 := S1.out.blk.cell (ac0 a)
  have c12 := S1.out.blk.cell (ac12 HA.out)
  clear b1
  rw [hs.out] at c0
  go_wp2_with (first
    | go_skip
    | refine wpList_load_nm rfl _ rfl w.heap.size 13 a.v.t rfl (S1.out.blk.avt HA.out) HA.out.v.tl ?_
    | refine wpList_build rfl 40 _ rfl [] rfl _ built24z ?_
    | refine wpList_val rfl (.bool true) (exec_bare HA.out.v.tl hp.out rfl rfl rfl) ?_)
  go_ret
  exact ⟨rfl, S1.out.bel⟩
set_option maxRecDepth 100000 in
set_option maxHeartbeats 1000000 in
theorem raright_4e (a : Am) (b : Bool) (w : World) (ha : a.Ok) (hk : Hid (a.k.right = true)) (hs : Hid (a.k.s = 4)) (p : Bool) (hp : Hid ((a.v.t == M.zero8) = p)) (e1 : decide (a.v.n % 256 < 16) = true) (e2 : decide (1 ≤ a.v.n / 256) = true) (e3 : decide (a.v.n / 256 ≤ 4294967295) = true) (hp1 : p = false) (hb : Hid (M.rightB a.v.t = b)) : Calls Tryz.prog 33 #[.agg a.cells.toArray] w fun e w' => e = .returned (.bool b) ∧ Below w.heap.size w w' := by
  have S0 := Lib.hid (as_new w a)
  have HA := Lib.hid ha
  subst hp1
  have n0 := ha.v.n0
  have d1 : a.v.n.tdiv 256 = a.v.n / 256 := Int.tdiv_eq_ediv_of_nonneg n0
  have d2 : IntKind.u64.wrap (a.v.n / 256) = a.v.n / 256 := by have := ha.v.n1; rw [IntKind.wrap_u64]; omega
  have d3 : a.v.n.tmod 256 = a.v.n % 256 := Int.tmod_eq_emod_of_nonneg n0
  clear ha
  go_enter Tryz.func33, Tryz.ntmps33
  go_wp2_with (refine wpList_load_ky rfl _ rfl w.heap.size 0 a.k rfl S0.out.blk.ak HA.out.k.ml ?_)
  refine (refKright_is a.k true _ HA.out.k hk).mono ?_
  rintro e w1 ⟨rfl, b1⟩
  have S1 := Lib.hid (S0.out.below b1)
  have c0 := S1.out.blk.cell (ac0 a)
  have c12 := S1.out.blk.cell (ac12 HA.out)
  clear b1
  rw [hs.out] at c0
  go_wp2_with (first
    | go_skip
    | (refine wanted_on rfl ?_; refine wpList_load_nm rfl _ rfl w.heap.size 13 a.v.t rfl (S1.out.blk.avt HA.out) HA.out.v.tl ?_)
    | refine wpList_load_nm rfl _ rfl w.heap.size 13 a.v.t rfl (S1.out.blk.avt HA.out) HA.out.v.tl ?_
    | refine wpList_build rfl 40 _ rfl [] rfl _ built24z ?_
    | refine wpList_val rfl (.bool false) (exec_bare HA.out.v.tl hp.out rfl rfl rfl) ?_)
  refine (refRight_is a.v.t b _ HA.out.v.tl (Lib.hid HA.out.v.tb) hb).mono ?_
  rintro e w2 ⟨rfl, b2⟩
  have S2 := Lib.hid (S1.out.below b2)
  clear b2
  go_wp2_with fail
  go_ret
  exact ⟨rfl, S2.out.bel⟩
theorem refAright_is (a : Am) (b : Bool) (w : World) (ha : a.Ok) (hb : Hid (a.right = b)) : Calls Tryz.prog 33 #[.agg a.cells.toArray] w fun e w' => e = .returned (.bool b) ∧ Below w.heap.size w w' := by
  have h := hb.out
  unfold Am.right at h
  have n0 := ha.v.n0
  cases hk : a.k.right with
  | false =>
    rw [hk, Bool.false_and] at h
    exact raright_no a b w ha (Lib.hid hk) h.symm
  | true =>
    rw [hk, Bool.true_and] at h
    unfold valB at h
    obtain ⟨p, hp⟩ : ∃ p, (a.v.t == M.zero8) = p := ⟨_, rfl⟩
    have hq := bare_is hp
    rcases right_sort hk with hs | hs | hs | hs
    · rw [if_pos hs] at h
      unfold betweenB at h
      rw [hq] at h
      cases p with
      | false =>
        rw [Bool.and_false] at h
        exact raright_1f a b w ha (Lib.hid hk) (Lib.hid hs) false (Lib.hid hp) rfl h.symm
      | true =>
        rw [Bool.and_true] at h
        by_cases e : a.v.n = 1
        · refine raright_1a a b w ha (Lib.hid hk) (Lib.hid hs) (Lib.hid hp) (by rw [e]; rfl) ?_
          rw [← h, e]; rfl
        · refine raright_1b a b w ha (Lib.hid hk) (Lib.hid hs) (Lib.hid hp) (beq_eq_false_iff_ne.2 e) ?_
          rw [← h]
          by_cases f : a.v.n = 2
          · rw [f]; rfl
          · rw [beq_eq_false_iff_ne.2 f]
            by_cases g : 1 ≤ a.v.n
            · rw [decide_eq_false (show ¬ a.v.n ≤ 2 by omega), Bool.and_false]
            · rw [decide_eq_false g, Bool.false_and]
    · rw [if_neg (by omega), if_neg (by omega)] at h
      unfold betweenB at h
      rw [hq] at h
      cases p with
      | false =>
        rw [Bool.and_false] at h
        exact raright_2f a b w ha (Lib.hid hk) (Lib.hid hs) false (Lib.hid hp) rfl h.symm
      | true =>
        rw [Bool.and_true] at h
        by_cases e : 1 ≤ a.v.n
        · rw [decide_eq_true e, Bool.true_and] at h
          exact raright_2a a b w ha (Lib.hid hk) (Lib.hid hs) (Lib.hid hp) e h
        · rw [decide_eq_false e, Bool.false_and] at h
          exact raright_2b a b w ha (Lib.hid hk) (Lib.hid hs) (Lib.hid hp) e h.symm
    · rw [if_neg (by omega), if_neg (by omega)] at h
      unfold betweenB at h
      rw [hq] at h
      cases p with
      | false =>
        rw [Bool.and_false] at h
        exact raright_3f a b w ha (Lib.hid hk) (Lib.hid hs) false (Lib.hid hp) rfl h.symm
      | true =>
        rw [Bool.and_true] at h
        by_cases e : 1 ≤ a.v.n
        · rw [decide_eq_true e, Bool.true_and] at h
          exact raright_3a a b w ha (Lib.hid hk) (Lib.hid hs) (Lib.hid hp) e h
        · rw [decide_eq_false e, Bool.false_and] at h
          exact raright_3b a b w ha (Lib.hid hk) (Lib.hid hs) (Lib.hid hp) e h.symm
    · rw [if_neg (by omega), if_pos hs] at h
      unfold lineB stampB at h
      rw [hq] at h
      by_cases e1 : a.v.n % 256 < 16
      · by_cases e2 : 1 ≤ a.v.n / 256
        · by_cases e3 : a.v.n / 256 ≤ 4294967295
          · rw [decide_eq_true (show a.v.n < 1099511627776 by omega), decide_eq_true (show 0 < a.v.n / 256 % 4294967296 by omega), decide_eq_true e1, Bool.true_and, Bool.true_and, Bool.true_and] at h
            cases p with
            | true =>
              rw [Bool.or_true] at h
              exact raright_4d a b w ha (Lib.hid hk) (Lib.hid hs) true (Lib.hid hp) (decide_eq_true e1) (decide_eq_true e2) (decide_eq_true e3) rfl h.symm
            | false =>
              rw [Bool.or_false] at h
              exact raright_4e a b w ha (Lib.hid hk) (Lib.hid hs) false (Lib.hid hp) (decide_eq_true e1) (decide_eq_true e2) (decide_eq_true e3) rfl (Lib.hid h)
          · rw [decide_eq_false (show ¬ a.v.n < 1099511627776 by omega), Bool.false_and, Bool.false_and] at h
            exact raright_4c a b w ha (Lib.hid hk) (Lib.hid hs) p (Lib.hid hp) (decide_eq_true e1) (decide_eq_true e2) (decide_eq_false e3) h.symm
        · rw [decide_eq_false (show ¬ 0 < a.v.n / 256 % 4294967296 by omega), Bool.false_and, Bool.and_false, Bool.false_and] at h
          exact raright_4b a b w ha (Lib.hid hk) (Lib.hid hs) p (Lib.hid hp) (decide_eq_true e1) (decide_eq_false e2) h.symm
      · rw [decide_eq_false e1, Bool.and_false, Bool.and_false, Bool.false_and] at h
        exact raright_4a a b w ha (Lib.hid hk) (Lib.hid hs) p (Lib.hid hp) (decide_eq_false e1) h.symm
end Go.Proofs.YtnpbmihbmilkbaaGreat
