/- The walk of AtomBack. -/
import Derived.Test.YteggjihhjdeieaaARead
import Derived.Test.YteggjihhjdeieaaAOver
namespace Go.Proofs.Yteggjihhjdeieaa
open Go.RowKit

/-- What holds of every world of the region. -/
structure TS (w : World) (a : Am) (x y z : Vl) (W : World) : Prop where
  bel : Below w.heap.size w W
  one : Blk W w.heap.size 32 a.cells
  arr : Blk W (w.heap.size + 1) 43 (x.cells ++ (y.cells ++ z.cells))
theorem TS.drew {w : World} {a : Am} {x y z : Vl} {W : World} (h : TS w a x y z W) : TS w a x y z W.drew := ⟨below_drew h.bel, h.one.drew, h.arr.drew⟩
theorem TS.below {w : World} {a : Am} {x y z : Vl} {W W' : World} (h : TS w a x y z W) (hb : Below W.heap.size W W') : TS w a x y z W' := ⟨step_ h.bel hb, h.one.below hb, h.arr.below hb⟩
theorem TS.only {w : World} {a : Am} {x y z : Vl} {W W' : World} {g : Nat} (h : TS w a x y z W) (hb : Only g W W') (hg : w.heap.size + 1 < g) : TS w a x y z W' := ⟨h.bel.trans (hb.below (by omega) h.bel.size), h.one.only hb (by omega), h.arr.only hb (by omega)⟩
theorem TS.size {w : World} {a : Am} {x y z : Vl} {W : World} (h : TS w a x y z W) : w.heap.size + 1 < W.heap.size := h.arr.lt
theorem ts_new (w : World) (a : Am) (x y z : Vl) : TS w a x y z ((w.alloc (.cells a.cells.toArray 32)).alloc (.cells (x.cells ++ (y.cells ++ z.cells)).toArray 43)) := ⟨step_ (new_below w _) (new_below _ _), (blk_alloc w 32 a.cells).alloc _, blk2 w _ 43 (x.cells ++ (y.cells ++ z.cells))⟩
theorem TS.x {w : World} {a : Am} {x y z : Vl} {W : World} (h : TS w a x y z W) : W.rangeAt (w.heap.size + 1) 0 x.cells := fun j v hv => by
  have hj := (List.getElem?_eq_some_iff.1 hv).1
  exact h.arr.range j v (by rw [List.getElem?_append_left hj]; exact hv)
theorem TS.y {w : World} {a : Am} {x y z : Vl} {W : World} (h : TS w a x y z W) (hx : x.t.length = 8) : W.rangeAt (w.heap.size + 1) 9 y.cells := fun j v hv => by
  have hj := (List.getElem?_eq_some_iff.1 hv).1
  have := h.arr.range (9 + j) v (by rw [List.getElem?_append_right (by rw [vcells_len hx]; omega), vcells_len hx, show 9 + j - 9 = j by omega, List.getElem?_append_left hj]; exact hv)
  rwa [Nat.zero_add] at this
theorem TS.z {w : World} {a : Am} {x y z : Vl} {W : World} (h : TS w a x y z W) (hx : x.t.length = 8) (hy : y.t.length = 8) : W.rangeAt (w.heap.size + 1) 18 z.cells := fun j v hv => by
  have := h.arr.range (18 + j) v (by rw [List.getElem?_append_right (by rw [vcells_len hx]; omega), vcells_len hx, List.getElem?_append_right (by rw [vcells_len hy]; omega), vcells_len hy, show 18 + j - 9 - 9 = j by omega]; exact hv)
  rwa [Nat.zero_add] at this
/-- A value is made, in a region that draws its order. -/
theorem ready_alloc {ops : Array Oper} {Q : Exit → Act → World → Prop} {md : Region.Mode} {S : World → Prop} {fuel : Nat} {listed : Array Bool} {a : Act} {w : World} {i : Nat} {o : Oper} {rs : List Nat} (ho : ops[i]? = some o) (hg : o.guard = none) (hop : o.op = .alloc 30)
    (h : ∀ g w', g = w.heap.size → Blk w' g 30 vzero.cells → Below w.heap.size w w' → S w' ∧ wpAnyH Try.prog md ops Q S fuel (listed.setIfInBounds i true) (a.put o.dst (.pointer (some ⟨g, 0, none⟩))) w')
    (hs : AllReadyH Try.prog md ops Q S fuel listed a w rs) : AllReadyH Try.prog md ops Q S fuel listed a w (i :: rs) := by
  refine AllReadyH.cons ho (fun K hK => ?_) hs
  have hw : Region.wanted o (yielded ops a.tmps) = true := by simp [Region.wanted, hg]
  rw [if_pos hw]
  have hz := zero30
  have H := h w.heap.size (w.alloc (.cells vzero.cells.toArray 30)) rfl (blk_alloc w 30 vzero.cells) (new_below w _)
  unfold Oper.wp execOp
  simp [hop, Instr.alloc, hz]
  exact hK.out _ _ H.1 (fun _ => H.2)
/-- A value is stored over a made one, in a region that draws its order. -/
theorem ready_store {ops : Array Oper} {Q : Exit → Act → World → Prop} {md : Region.Mode} {S : World → Prop} {fuel : Nat} {listed : Array Bool} {a : Act} {w : World} {i : Nat} {o : Oper} {rs : List Nat} (ho : ops[i]? = some o) (hg : o.guard = none) (x y : Operand) (hop : o.op = .store 30 x y) (g : Nat) (v : Vl)
    (hx : a.eval x = .pointer (some ⟨g, 0, none⟩)) (hy : a.eval y = .agg v.cells.toArray) (hb : Blk w g 30 vzero.cells) (hv : v.t.length = 8)
    (h : ∀ w', Blk w' g 30 v.cells → Only g w w' → S w' ∧ wpAnyH Try.prog md ops Q S fuel (listed.setIfInBounds i true) (a.put o.dst undef) w')
    (hs : AllReadyH Try.prog md ops Q S fuel listed a w rs) : AllReadyH Try.prog md ops Q S fuel listed a w (i :: rs) := by
  refine AllReadyH.cons ho (fun K hK => ?_) hs
  have hw : Region.wanted o (yielded ops a.tmps) = true := by simp [Region.wanted, hg]
  rw [if_pos hw]
  have h1 := vcells_len hv
  have h2 := vcells_len (v := vzero) rfl
  refine wp_store_mid 30 x y hop g 0 v.cells.toArray hx hy (hb.there 0 _ (by rw [List.size_toArray]; omega)) (by rw [List.size_toArray]; exact size30 hv) (one30 v) ?_
  have hB := Blk.setCells v.cells 0 w vzero.cells hb
  rw [setL_all _ _ (by omega)] at hB
  have H := h _ hB (Only.setCells v.cells 0 w)
  exact hK.out _ _ H.1 (fun _ => H.2)
/-- Behind the three values. -/
def At3 (a : Am) (x y z : Vl) (ad : Option Addr) (l : List Int) (cap : Nat) (w : World) (e : Exit) (act : Act) (W : World) : Prop :=
  e = .normal ∧ ∃ g7 g8 g9, act = (⟨#[.agg a.cells.toArray, .slice ad l.length cap, .agg (x.cells ++ (y.cells ++ z.cells)).toArray, .pointer (some ⟨w.heap.size, 0, none⟩), undef, .pointer (some ⟨w.heap.size + 1, 0, none⟩), .bool false, .pointer (some ⟨g7, 0, none⟩), .pointer (some ⟨g8, 0, none⟩), .pointer (some ⟨g9, 0, none⟩), undef, undef, undef, .slice ad l.length cap, .int .i64 l.length, .bool false, undef, .pointer (some ⟨w.heap.size + 1, 0, none⟩), .agg x.cells.toArray, .pointer (some ⟨w.heap.size + 1, 9, none⟩), .agg y.cells.toArray, .pointer (some ⟨w.heap.size + 1, 18, none⟩), .agg z.cells.toArray, undef, undef, undef, undef, undef, undef, undef, undef, undef, undef, undef, undef, undef, undef, undef, undef, undef, undef, undef, undef, undef, undef, undef, undef, undef, undef, undef, undef, undef, undef, undef, undef, undef, undef, undef, undef, undef, undef, undef, undef, undef, undef, undef, undef, undef, undef, undef, undef, undef, undef, undef, undef, undef, undef, undef, undef, undef, undef, undef, undef, undef, undef, undef, undef, undef, undef, undef, undef, undef, undef, undef, undef, undef, undef, undef, undef, undef, undef, undef, undef, undef, undef, undef, undef, undef, undef, undef, undef, undef, undef, undef, undef, undef, undef, undef, undef, undef, undef, undef, undef, undef, undef, undef, undef, undef, undef, undef, undef, undef, undef, undef], []⟩ : Act) ∧ Blk W g7 30 x.cells ∧ Blk W g8 30 y.cells ∧ Blk W g9 30 z.cells ∧ TS w a x y z W
theorem exec_eq_vlv {o : Oper} {a : Act} {w : World} {x y : Operand} {t : TypeId} {A B : Vl} {b : Bool} (hE : decide (A = B) = b) (ho : o.op = .binOp .eql 30 x y t) (hx : a.eval x = .agg A.cells.toArray) (hy : a.eval y = .agg B.cells.toArray) (hA : A.t.length = 8) (hB : B.t.length = 8) :
    (execOp a.eval o).run Try.prog w = .ok (.value (.bool b)) w := hE ▸ exec_eq_vl x y t ho A B hx hy hA hB
theorem exec_neq_vlv {o : Oper} {a : Act} {w : World} {x y : Operand} {t : TypeId} {A B : Vl} {b : Bool} (hE : (!decide (A = B)) = b) (ho : o.op = .binOp .neq 30 x y t) (hx : a.eval x = .agg A.cells.toArray) (hy : a.eval y = .agg B.cells.toArray) (hA : A.t.length = 8) (hB : B.t.length = 8) :
    (execOp a.eval o).run Try.prog w = .ok (.value (.bool b)) w := by
  subst hE
  unfold execOp
  simp only [ho, hx, hy, Sem.run_bind, run_eqGuard_agg w .neq 30 x y _ _ eqg30, Result.andThen_ok, run_neq_struct, eql30 A B hA hB 9997 w, Sem.run_pure]
theorem exec_same_am {o : Oper} {a : Act} {w : World} {x y : Operand} {t : TypeId} {A : Am} (ho : o.op = .binOp .eql 32 x y t) (hx : a.eval x = .agg A.cells.toArray) (hy : a.eval y = .agg A.cells.toArray) (hA : A.Ok) :
    (execOp a.eval o).run Try.prog w = .ok (.value (.bool true)) w := by
  have h := exec_eq_am (w := w) x y t ho A A hx hy hA hA
  rwa [decide_eq_true rfl] at h
theorem ab_long (a : Am) (x y z : Vl) (ad : Option Addr) (n cap : Nat) (w : World) (hn : 60 < n) : Calls Try.prog 5 #[.agg a.cells.toArray, .slice ad n cap, .agg (x.cells ++ (y.cells ++ z.cells)).toArray] w fun e w' => e = .returned (.bool true) ∧ Below w.heap.size w w' := by
  have k1 : (60 : Int) < (n : Int) := by omega
  have B0 := Lib.hid (step_ (new_below w (.cells a.cells.toArray 32)) (new_below _ (.cells (x.cells ++ (y.cells ++ z.cells)).toArray 43)))
  clear hn
  go_enter Try.func5, Try.ntmps5
  go_wp2_with fail
  refine (alive_is _).mono ?_
  rintro e w1 ⟨rfl, b1⟩
  have B1 := Lib.hid (step_ B0.out b1)
  clear b1
  go_wp2_with fail
  go_ret
  exact ⟨rfl, B1.out⟩
/-- What holds of every world of the last region. -/
structure BS (w : World) (a : Am) (W : World) : Prop where
  bel : Below w.heap.size w W
  one : Blk W w.heap.size 32 a.cells
theorem BS.drew {w : World} {a : Am} {W : World} (h : BS w a W) : BS w a W.drew := ⟨below_drew h.bel, h.one.drew⟩
theorem BS.below {w : World} {a : Am} {W W' : World} (h : BS w a W) (hb : Below W.heap.size W W') : BS w a W' := ⟨step_ h.bel hb, h.one.below hb⟩
theorem BS.only {w : World} {a : Am} {x : Nat} {W W' : World} (h : BS w a W) (ho : Only x W W') (h1 : w.heap.size < x) : BS w a W' := ⟨h.bel.trans (ho.below (Nat.le_of_lt h1) h.bel.size), h.one.only ho (Nat.ne_of_lt h1)⟩
set_option maxRecDepth 100000 in
set_option maxHeartbeats 16000000 in
theorem ab_main (a : Am) (x y z : Vl) (ad : Option Addr) (l : List Int) (cap : Nat) (w : World) (ha : a.Ok) (hx : x.Ok) (hy : y.Ok) (hz : z.Ok) (hl : BytesAt w (.slice ad l.length cap) l) (hn : l.length ≤ 60) :
    Calls Try.prog 5 #[.agg a.cells.toArray, .slice ad l.length cap, .agg (x.cells ++ (y.cells ++ z.cells)).toArray] w fun e w' => e = .returned (.bool true) ∧ Below w.heap.size w w' := by
  have hz3 := zero30
  have k1 : ¬ (60 : Int) < (l.length : Int) := by omega
  have HA := Lib.hid ha
  have HX := Lib.hid hx
  have HY := Lib.hid hy
  have HZ := Lib.hid hz
  have HV := Lib.hid hl
  have HN := Lib.hid hn
  have S0 := Lib.hid (ts_new w a x y z)
  have HMD := Lib.hid (show ∃ m : Vl, more x y = m from ⟨_, rfl⟩)
  obtain ⟨m, hm⟩ := HMD.out
  have HMO : Hid m.Ok := Lib.hid (hm ▸ more_ok hx hy)
  have HMC : Hid (∀ W, Calls Try.prog 10 #[.agg x.cells.toArray, .agg y.cells.toArray] W fun e w' => e = .returned (.agg m.cells.toArray) ∧ Below W.heap.size W w') := Lib.hid fun W => hm ▸ amore_is x y W hx hy
  have HM := Lib.hid hm
  clear ha hx hy hz hl hn hm HMD
  go_enter Try.func5, Try.ntmps5
  go_wp2_with fail
  refine Code.wp_mono (Q := At3 a x y z ad l cap w) ?_ ?_
  rotate_left
  ·
    have S1 := Lib.hid S0.out.drew
    clear S0
    refine wp_region_noPanic ?_
    refine wp_region_held_drew (S := TS w a x y z) (by kernel_rfl) S1.out (fun _ => ?_)
    refine wpAnyH_take (i := 0) (oi := { dst := some 17, op := Go.Op.indexAddr 43 (Go.Operand.tmp 5) (Go.Operand.const (Go.Value.int Go.IntKind.i64 0)), type := 0, pos := _, after := #[], guard := none }) (v := ?_) rfl (by kernel_rfl) (by kernel_rfl) (by kernel_rfl) (fun _ _ _ h => h) (Or.inl ⟨by rfl, ?_⟩) S1.out ?_
    rotate_left
    · intro W hW; (go_simp; try with_reducible rfl)
    try simp only [Act.put, List.setIfInBounds_toArray, List.set_cons_zero, List.set_cons_succ]
    refine wpAnyH_take (i := 1) (oi := { dst := some 18, op := Go.Op.load 30 (Go.Operand.tmp 17), type := 30, pos := _, after := #[{ on := 0, ground := Go.Ground.data }], guard := none }) (v := .agg x.cells.toArray) rfl (by kernel_rfl) (by kernel_rfl) (by kernel_rfl) (fun _ _ _ h => h) (yieldsIf_load_mid (by rfl) 30 (.tmp 17) rfl (w.heap.size + 1) 0 rfl x.cells _ (fun W hW => hW.x) Try.underlying30 rfl (size30 HX.out.tl)) S1.out ?_
    try simp only [Act.put, List.setIfInBounds_toArray, List.set_cons_zero, List.set_cons_succ]
    refine wpAnyH_take (i := 2) (oi := { dst := some 19, op := Go.Op.indexAddr 43 (Go.Operand.tmp 5) (Go.Operand.const (Go.Value.int Go.IntKind.i64 1)), type := 0, pos := _, after := #[{ on := 9, ground := Go.Ground.gcOnly Go.Departure.lateStores }], guard := none }) (v := ?_) rfl (by kernel_rfl) (by kernel_rfl) (by kernel_rfl) (fun _ _ _ h => h) (Or.inl ⟨by rfl, ?_⟩) S1.out ?_
    rotate_left
    · intro W hW; (go_simp; try with_reducible rfl)
    try simp only [Act.put, List.setIfInBounds_toArray, List.set_cons_zero, List.set_cons_succ]
    refine wpAnyH_take (i := 3) (oi := { dst := some 20, op := Go.Op.load 30 (Go.Operand.tmp 19), type := 30, pos := _, after := #[{ on := 2, ground := Go.Ground.data }, { on := 9, ground := Go.Ground.gcOnly Go.Departure.lateStores }], guard := none }) (v := .agg y.cells.toArray) rfl (by kernel_rfl) (by kernel_rfl) (by kernel_rfl) (fun _ _ _ h => h) (yieldsIf_load_mid (by rfl) 30 (.tmp 19) rfl (w.heap.size + 1) 9 rfl y.cells _ (fun W hW => hW.y HX.out.tl) Try.underlying30 rfl (size30 HY.out.tl)) S1.out ?_
    try simp only [Act.put, List.setIfInBounds_toArray, List.set_cons_zero, List.set_cons_succ]
    refine wpAnyH_take (i := 4) (oi := { dst := some 21, op := Go.Op.indexAddr 43 (Go.Operand.tmp 5) (Go.Operand.const (Go.Value.int Go.IntKind.i64 2)), type := 0, pos := _, after := #[{ on := 10, ground := Go.Ground.gcOnly Go.Departure.lateStores }], guard := none }) (v := ?_) rfl (by kernel_rfl) (by kernel_rfl) (by kernel_rfl) (fun _ _ _ h => h) (Or.inl ⟨by rfl, ?_⟩) S1.out ?_
    rotate_left
    · intro W hW; (go_simp; try with_reducible rfl)
    try simp only [Act.put, List.setIfInBounds_toArray, List.set_cons_zero, List.set_cons_succ]
    refine wpAnyH_take (i := 5) (oi := { dst := some 22, op := Go.Op.load 30 (Go.Operand.tmp 21), type := 30, pos := _, after := #[{ on := 4, ground := Go.Ground.data }, { on := 10, ground := Go.Ground.gcOnly Go.Departure.lateStores }], guard := none }) (v := .agg z.cells.toArray) rfl (by kernel_rfl) (by kernel_rfl) (by kernel_rfl) (fun _ _ _ h => h) (yieldsIf_load_mid (by rfl) 30 (.tmp 21) rfl (w.heap.size + 1) 18 rfl z.cells _ (fun W hW => hW.z HX.out.tl HY.out.tl) Try.underlying30 rfl (size30 HZ.out.tl)) S1.out ?_
    try simp only [Act.put, List.setIfInBounds_toArray, List.set_cons_zero, List.set_cons_succ]
    refine wpAnyH_ready (rs := [6, 7, 8]) (by kernel_rfl) (by simp) ?_
    refine ready_alloc (o := { dst := some 7, op := Go.Op.alloc 30, type := 0, pos := _, after := #[], guard := none }) rfl rfl rfl (fun g101 W101 e101 z101 b101 => ⟨S1.out.below b101, ?_⟩) ?_
    ·
      have S101 := Lib.hid (S1.out.below b101)
      have Z101 := Lib.hid z101
      have Lg101 := Lib.hid (show w.heap.size + 1 < g101 from e101 ▸ S1.out.size)
      clear e101 z101 b101
      try simp only [Act.put, List.setIfInBounds_toArray, List.set_cons_zero, List.set_cons_succ]
      refine wpAnyH_ready (rs := [7, 8]) (by kernel_rfl) (by simp) ?_
      refine ready_alloc (o := { dst := some 8, op := Go.Op.alloc 30, type := 0, pos := _, after := #[], guard := none }) rfl rfl rfl (fun g102 W102 e102 z102 b102 => ⟨S101.out.below b102, ?_⟩) ?_
      ·
        have S102 := Lib.hid (S101.out.below b102)
        have Z102 := Lib.hid z102
        have Lg102 := Lib.hid (show w.heap.size + 1 < g102 from e102 ▸ S101.out.size)
        have Z1026x := Lib.hid (Z101.out.below b102)
        have NE1026 := Lib.hid (show g101 ≠ g102 by have := Z101.out.lt; omega)
        have EN1026 := Lib.hid NE1026.out.symm
        clear e102 z102 b102
        try simp only [Act.put, List.setIfInBounds_toArray, List.set_cons_zero, List.set_cons_succ]
        refine wpAnyH_ready (rs := [8]) (by kernel_rfl) (by simp) ?_
        refine ready_alloc (o := { dst := some 9, op := Go.Op.alloc 30, type := 0, pos := _, after := #[], guard := none }) rfl rfl rfl (fun g103 W103 e103 z103 b103 => ⟨S102.out.below b103, ?_⟩) ?_
        ·
          have S103 := Lib.hid (S102.out.below b103)
          have Z103 := Lib.hid z103
          have Lg103 := Lib.hid (show w.heap.size + 1 < g103 from e103 ▸ S102.out.size)
          have Z1036x := Lib.hid (Z1026x.out.below b103)
          have NE1036 := Lib.hid (show g101 ≠ g103 by have := Z1026x.out.lt; omega)
          have EN1036 := Lib.hid NE1036.out.symm
          have Z1037x := Lib.hid (Z102.out.below b103)
          have NE1037 := Lib.hid (show g102 ≠ g103 by have := Z102.out.lt; omega)
          have EN1037 := Lib.hid NE1037.out.symm
          clear e103 z103 b103
          try simp only [Act.put, List.setIfInBounds_toArray, List.set_cons_zero, List.set_cons_succ]
          refine wpAnyH_ready (rs := [9]) (by kernel_rfl) (by simp) ?_
          refine ready_store (o := { dst := none, op := Go.Op.store 30 (Go.Operand.tmp 7) (Go.Operand.tmp 18), type := 0, pos := _, after := #[{ on := 6, ground := Go.Ground.data }, { on := 1, ground := Go.Ground.data }, { on := 0, ground := Go.Ground.phase }, { on := 1, ground := Go.Ground.phase }, { on := 2, ground := Go.Ground.textOnly Go.Departure.lateStores }, { on := 3, ground := Go.Ground.textOnly Go.Departure.lateStores }, { on := 4, ground := Go.Ground.textOnly Go.Departure.lateStores }, { on := 5, ground := Go.Ground.textOnly Go.Departure.lateStores }, { on := 6, ground := Go.Ground.phase }, { on := 7, ground := Go.Ground.phase }, { on := 8, ground := Go.Ground.phase }], guard := none }) rfl rfl (.tmp 7) (.tmp 18) rfl g101 x rfl rfl Z1036x.out HX.out.tl (fun W104 z104 o104 => ⟨S103.out.only o104 Lg101.out, ?_⟩) ?_
          ·
            have S104 := Lib.hid (S103.out.only o104 Lg101.out)
            have Z104 := Lib.hid z104
            have Z1047x := Lib.hid (Z1037x.out.only o104 EN1026.out)
            have Z1048x := Lib.hid (Z103.out.only o104 EN1036.out)
            clear z104 o104
            simp only [Act.put]
            refine wpAnyH_ready (rs := [10]) (by kernel_rfl) (by simp) ?_
            refine ready_store (o := { dst := none, op := Go.Op.store 30 (Go.Operand.tmp 8) (Go.Operand.tmp 20), type := 0, pos := _, after := #[{ on := 7, ground := Go.Ground.data }, { on := 3, ground := Go.Ground.data }, { on := 9, ground := Go.Ground.chain }, { on := 0, ground := Go.Ground.phase }, { on := 1, ground := Go.Ground.phase }, { on := 2, ground := Go.Ground.phase }, { on := 3, ground := Go.Ground.phase }, { on := 4, ground := Go.Ground.textOnly Go.Departure.lateStores }, { on := 5, ground := Go.Ground.textOnly Go.Departure.lateStores }, { on := 6, ground := Go.Ground.phase }, { on := 7, ground := Go.Ground.phase }, { on := 8, ground := Go.Ground.phase }, { on := 9, ground := Go.Ground.phase }], guard := none }) rfl rfl (.tmp 8) (.tmp 20) rfl g102 y rfl rfl Z1047x.out HY.out.tl (fun W105 z105 o105 => ⟨S104.out.only o105 Lg102.out, ?_⟩) ?_
            ·
              have S105 := Lib.hid (S104.out.only o105 Lg102.out)
              have Z105 := Lib.hid z105
              have Z1058x := Lib.hid (Z1048x.out.only o105 EN1037.out)
              have Z1056x := Lib.hid (Z104.out.only o105 NE1026.out)
              clear z105 o105
              simp only [Act.put]
              refine wpAnyH_ready (rs := [11]) (by kernel_rfl) (by simp) ?_
              refine ready_store (o := { dst := none, op := Go.Op.store 30 (Go.Operand.tmp 9) (Go.Operand.tmp 22), type := 0, pos := _, after := #[{ on := 8, ground := Go.Ground.data }, { on := 5, ground := Go.Ground.data }, { on := 10, ground := Go.Ground.chain }, { on := 0, ground := Go.Ground.phase }, { on := 1, ground := Go.Ground.phase }, { on := 2, ground := Go.Ground.phase }, { on := 3, ground := Go.Ground.phase }, { on := 4, ground := Go.Ground.phase }, { on := 5, ground := Go.Ground.phase }, { on := 6, ground := Go.Ground.phase }, { on := 7, ground := Go.Ground.phase }, { on := 8, ground := Go.Ground.phase }, { on := 9, ground := Go.Ground.phase }, { on := 10, ground := Go.Ground.phase }], guard := none }) rfl rfl (.tmp 9) (.tmp 22) rfl g103 z rfl rfl Z1058x.out HZ.out.tl (fun W106 z106 o106 => ⟨S105.out.only o106 Lg103.out, ?_⟩) ?_
              ·
                have S106 := Lib.hid (S105.out.only o106 Lg103.out)
                have Z106 := Lib.hid z106
                have Z1066x := Lib.hid (Z1056x.out.only o106 NE1036.out)
                have Z1067x := Lib.hid (Z105.out.only o106 NE1037.out)
                clear z106 o106
                simp only [Act.put]
                refine wpAnyH_done (by kernel_rfl) ?_ _
                exact NoPanic.normal ⟨rfl, g101, g102, g103, rfl, Z1066x.out, Z1067x.out, Z106.out, S106.out⟩
              exact AllReadyH.nil
            exact AllReadyH.nil
          exact AllReadyH.nil
        exact AllReadyH.nil
      refine ready_alloc (o := { dst := some 9, op := Go.Op.alloc 30, type := 0, pos := _, after := #[], guard := none }) rfl rfl rfl (fun g107 W107 e107 z107 b107 => ⟨S101.out.below b107, ?_⟩) ?_
      ·
        have S107 := Lib.hid (S101.out.below b107)
        have Z107 := Lib.hid z107
        have Lg107 := Lib.hid (show w.heap.size + 1 < g107 from e107 ▸ S101.out.size)
        have Z1076x := Lib.hid (Z101.out.below b107)
        have NE1076 := Lib.hid (show g101 ≠ g107 by have := Z101.out.lt; omega)
        have EN1076 := Lib.hid NE1076.out.symm
        clear e107 z107 b107
        try simp only [Act.put, List.setIfInBounds_toArray, List.set_cons_zero, List.set_cons_succ]
        refine wpAnyH_ready (rs := [7]) (by kernel_rfl) (by simp) ?_
        refine ready_alloc (o := { dst := some 8, op := Go.Op.alloc 30, type := 0, pos := _, after := #[], guard := none }) rfl rfl rfl (fun g108 W108 e108 z108 b108 => ⟨S107.out.below b108, ?_⟩) ?_
        ·
          have S108 := Lib.hid (S107.out.below b108)
          have Z108 := Lib.hid z108
          have Lg108 := Lib.hid (show w.heap.size + 1 < g108 from e108 ▸ S107.out.size)
          have Z1086x := Lib.hid (Z1076x.out.below b108)
          have NE1086 := Lib.hid (show g101 ≠ g108 by have := Z1076x.out.lt; omega)
          have EN1086 := Lib.hid NE1086.out.symm
          have Z1088x := Lib.hid (Z107.out.below b108)
          have NE1088 := Lib.hid (show g107 ≠ g108 by have := Z107.out.lt; omega)
          have EN1088 := Lib.hid NE1088.out.symm
          clear e108 z108 b108
          try simp only [Act.put, List.setIfInBounds_toArray, List.set_cons_zero, List.set_cons_succ]
          refine wpAnyH_ready (rs := [9]) (by kernel_rfl) (by simp) ?_
          refine ready_store (o := { dst := none, op := Go.Op.store 30 (Go.Operand.tmp 7) (Go.Operand.tmp 18), type := 0, pos := _, after := #[{ on := 6, ground := Go.Ground.data }, { on := 1, ground := Go.Ground.data }, { on := 0, ground := Go.Ground.phase }, { on := 1, ground := Go.Ground.phase }, { on := 2, ground := Go.Ground.textOnly Go.Departure.lateStores }, { on := 3, ground := Go.Ground.textOnly Go.Departure.lateStores }, { on := 4, ground := Go.Ground.textOnly Go.Departure.lateStores }, { on := 5, ground := Go.Ground.textOnly Go.Departure.lateStores }, { on := 6, ground := Go.Ground.phase }, { on := 7, ground := Go.Ground.phase }, { on := 8, ground := Go.Ground.phase }], guard := none }) rfl rfl (.tmp 7) (.tmp 18) rfl g101 x rfl rfl Z1086x.out HX.out.tl (fun W109 z109 o109 => ⟨S108.out.only o109 Lg101.out, ?_⟩) ?_
          ·
            have S109 := Lib.hid (S108.out.only o109 Lg101.out)
            have Z109 := Lib.hid z109
            have Z1098x := Lib.hid (Z1088x.out.only o109 EN1076.out)
            have Z1097x := Lib.hid (Z108.out.only o109 EN1086.out)
            clear z109 o109
            simp only [Act.put]
            refine wpAnyH_ready (rs := [10]) (by kernel_rfl) (by simp) ?_
            refine ready_store (o := { dst := none, op := Go.Op.store 30 (Go.Operand.tmp 8) (Go.Operand.tmp 20), type := 0, pos := _, after := #[{ on := 7, ground := Go.Ground.data }, { on := 3, ground := Go.Ground.data }, { on := 9, ground := Go.Ground.chain }, { on := 0, ground := Go.Ground.phase }, { on := 1, ground := Go.Ground.phase }, { on := 2, ground := Go.Ground.phase }, { on := 3, ground := Go.Ground.phase }, { on := 4, ground := Go.Ground.textOnly Go.Departure.lateStores }, { on := 5, ground := Go.Ground.textOnly Go.Departure.lateStores }, { on := 6, ground := Go.Ground.phase }, { on := 7, ground := Go.Ground.phase }, { on := 8, ground := Go.Ground.phase }, { on := 9, ground := Go.Ground.phase }], guard := none }) rfl rfl (.tmp 8) (.tmp 20) rfl g108 y rfl rfl Z1097x.out HY.out.tl (fun W110 z110 o110 => ⟨S109.out.only o110 Lg108.out, ?_⟩) ?_
            ·
              have S110 := Lib.hid (S109.out.only o110 Lg108.out)
              have Z110 := Lib.hid z110
              have Z1108x := Lib.hid (Z1098x.out.only o110 NE1088.out)
              have Z1106x := Lib.hid (Z109.out.only o110 NE1086.out)
              clear z110 o110
              simp only [Act.put]
              refine wpAnyH_ready (rs := [11]) (by kernel_rfl) (by simp) ?_
              refine ready_store (o := { dst := none, op := Go.Op.store 30 (Go.Operand.tmp 9) (Go.Operand.tmp 22), type := 0, pos := _, after := #[{ on := 8, ground := Go.Ground.data }, { on := 5, ground := Go.Ground.data }, { on := 10, ground := Go.Ground.chain }, { on := 0, ground := Go.Ground.phase }, { on := 1, ground := Go.Ground.phase }, { on := 2, ground := Go.Ground.phase }, { on := 3, ground := Go.Ground.phase }, { on := 4, ground := Go.Ground.phase }, { on := 5, ground := Go.Ground.phase }, { on := 6, ground := Go.Ground.phase }, { on := 7, ground := Go.Ground.phase }, { on := 8, ground := Go.Ground.phase }, { on := 9, ground := Go.Ground.phase }, { on := 10, ground := Go.Ground.phase }], guard := none }) rfl rfl (.tmp 9) (.tmp 22) rfl g107 z rfl rfl Z1108x.out HZ.out.tl (fun W111 z111 o111 => ⟨S110.out.only o111 Lg107.out, ?_⟩) ?_
              ·
                have S111 := Lib.hid (S110.out.only o111 Lg107.out)
                have Z111 := Lib.hid z111
                have Z1116x := Lib.hid (Z1106x.out.only o111 NE1076.out)
                have Z1117x := Lib.hid (Z110.out.only o111 EN1088.out)
                clear z111 o111
                simp only [Act.put]
                refine wpAnyH_done (by kernel_rfl) ?_ _
                exact NoPanic.normal ⟨rfl, g101, g108, g107, rfl, Z1116x.out, Z1117x.out, Z111.out, S111.out⟩
              exact AllReadyH.nil
            exact AllReadyH.nil
          exact AllReadyH.nil
        exact AllReadyH.nil
      exact AllReadyH.nil
    refine ready_alloc (o := { dst := some 8, op := Go.Op.alloc 30, type := 0, pos := _, after := #[], guard := none }) rfl rfl rfl (fun g112 W112 e112 z112 b112 => ⟨S1.out.below b112, ?_⟩) ?_
    ·
      have S112 := Lib.hid (S1.out.below b112)
      have Z112 := Lib.hid z112
      have Lg112 := Lib.hid (show w.heap.size + 1 < g112 from e112 ▸ S1.out.size)
      clear e112 z112 b112
      try simp only [Act.put, List.setIfInBounds_toArray, List.set_cons_zero, List.set_cons_succ]
      refine wpAnyH_ready (rs := [6, 8]) (by kernel_rfl) (by simp) ?_
      refine ready_alloc (o := { dst := some 7, op := Go.Op.alloc 30, type := 0, pos := _, after := #[], guard := none }) rfl rfl rfl (fun g113 W113 e113 z113 b113 => ⟨S112.out.below b113, ?_⟩) ?_
      ·
        have S113 := Lib.hid (S112.out.below b113)
        have Z113 := Lib.hid z113
        have Lg113 := Lib.hid (show w.heap.size + 1 < g113 from e113 ▸ S112.out.size)
        have Z1137x := Lib.hid (Z112.out.below b113)
        have NE1137 := Lib.hid (show g112 ≠ g113 by have := Z112.out.lt; omega)
        have EN1137 := Lib.hid NE1137.out.symm
        clear e113 z113 b113
        try simp only [Act.put, List.setIfInBounds_toArray, List.set_cons_zero, List.set_cons_succ]
        refine wpAnyH_ready (rs := [8]) (by kernel_rfl) (by simp) ?_
        refine ready_alloc (o := { dst := some 9, op := Go.Op.alloc 30, type := 0, pos := _, after := #[], guard := none }) rfl rfl rfl (fun g114 W114 e114 z114 b114 => ⟨S113.out.below b114, ?_⟩) ?_
        ·
          have S114 := Lib.hid (S113.out.below b114)
          have Z114 := Lib.hid z114
          have Lg114 := Lib.hid (show w.heap.size + 1 < g114 from e114 ▸ S113.out.size)
          have Z1147x := Lib.hid (Z1137x.out.below b114)
          have NE1147 := Lib.hid (show g112 ≠ g114 by have := Z1137x.out.lt; omega)
          have EN1147 := Lib.hid NE1147.out.symm
          have Z1146x := Lib.hid (Z113.out.below b114)
          have NE1146 := Lib.hid (show g113 ≠ g114 by have := Z113.out.lt; omega)
          have EN1146 := Lib.hid NE1146.out.symm
          clear e114 z114 b114
          try simp only [Act.put, List.setIfInBounds_toArray, List.set_cons_zero, List.set_cons_succ]
          refine wpAnyH_ready (rs := [9]) (by kernel_rfl) (by simp) ?_
          refine ready_store (o := { dst := none, op := Go.Op.store 30 (Go.Operand.tmp 7) (Go.Operand.tmp 18), type := 0, pos := _, after := #[{ on := 6, ground := Go.Ground.data }, { on := 1, ground := Go.Ground.data }, { on := 0, ground := Go.Ground.phase }, { on := 1, ground := Go.Ground.phase }, { on := 2, ground := Go.Ground.textOnly Go.Departure.lateStores }, { on := 3, ground := Go.Ground.textOnly Go.Departure.lateStores }, { on := 4, ground := Go.Ground.textOnly Go.Departure.lateStores }, { on := 5, ground := Go.Ground.textOnly Go.Departure.lateStores }, { on := 6, ground := Go.Ground.phase }, { on := 7, ground := Go.Ground.phase }, { on := 8, ground := Go.Ground.phase }], guard := none }) rfl rfl (.tmp 7) (.tmp 18) rfl g113 x rfl rfl Z1146x.out HX.out.tl (fun W115 z115 o115 => ⟨S114.out.only o115 Lg113.out, ?_⟩) ?_
          ·
            have S115 := Lib.hid (S114.out.only o115 Lg113.out)
            have Z115 := Lib.hid z115
            have Z1157x := Lib.hid (Z1147x.out.only o115 NE1137.out)
            have Z1158x := Lib.hid (Z114.out.only o115 EN1146.out)
            clear z115 o115
            simp only [Act.put]
            refine wpAnyH_ready (rs := [10]) (by kernel_rfl) (by simp) ?_
            refine ready_store (o := { dst := none, op := Go.Op.store 30 (Go.Operand.tmp 8) (Go.Operand.tmp 20), type := 0, pos := _, after := #[{ on := 7, ground := Go.Ground.data }, { on := 3, ground := Go.Ground.data }, { on := 9, ground := Go.Ground.chain }, { on := 0, ground := Go.Ground.phase }, { on := 1, ground := Go.Ground.phase }, { on := 2, ground := Go.Ground.phase }, { on := 3, ground := Go.Ground.phase }, { on := 4, ground := Go.Ground.textOnly Go.Departure.lateStores }, { on := 5, ground := Go.Ground.textOnly Go.Departure.lateStores }, { on := 6, ground := Go.Ground.phase }, { on := 7, ground := Go.Ground.phase }, { on := 8, ground := Go.Ground.phase }, { on := 9, ground := Go.Ground.phase }], guard := none }) rfl rfl (.tmp 8) (.tmp 20) rfl g112 y rfl rfl Z1157x.out HY.out.tl (fun W116 z116 o116 => ⟨S115.out.only o116 Lg112.out, ?_⟩) ?_
            ·
              have S116 := Lib.hid (S115.out.only o116 Lg112.out)
              have Z116 := Lib.hid z116
              have Z1168x := Lib.hid (Z1158x.out.only o116 EN1147.out)
              have Z1166x := Lib.hid (Z115.out.only o116 EN1137.out)
              clear z116 o116
              simp only [Act.put]
              refine wpAnyH_ready (rs := [11]) (by kernel_rfl) (by simp) ?_
              refine ready_store (o := { dst := none, op := Go.Op.store 30 (Go.Operand.tmp 9) (Go.Operand.tmp 22), type := 0, pos := _, after := #[{ on := 8, ground := Go.Ground.data }, { on := 5, ground := Go.Ground.data }, { on := 10, ground := Go.Ground.chain }, { on := 0, ground := Go.Ground.phase }, { on := 1, ground := Go.Ground.phase }, { on := 2, ground := Go.Ground.phase }, { on := 3, ground := Go.Ground.phase }, { on := 4, ground := Go.Ground.phase }, { on := 5, ground := Go.Ground.phase }, { on := 6, ground := Go.Ground.phase }, { on := 7, ground := Go.Ground.phase }, { on := 8, ground := Go.Ground.phase }, { on := 9, ground := Go.Ground.phase }, { on := 10, ground := Go.Ground.phase }], guard := none }) rfl rfl (.tmp 9) (.tmp 22) rfl g114 z rfl rfl Z1168x.out HZ.out.tl (fun W117 z117 o117 => ⟨S116.out.only o117 Lg114.out, ?_⟩) ?_
              ·
                have S117 := Lib.hid (S116.out.only o117 Lg114.out)
                have Z117 := Lib.hid z117
                have Z1176x := Lib.hid (Z1166x.out.only o117 NE1146.out)
                have Z1177x := Lib.hid (Z116.out.only o117 NE1147.out)
                clear z117 o117
                simp only [Act.put]
                refine wpAnyH_done (by kernel_rfl) ?_ _
                exact NoPanic.normal ⟨rfl, g113, g112, g114, rfl, Z1176x.out, Z1177x.out, Z117.out, S117.out⟩
              exact AllReadyH.nil
            exact AllReadyH.nil
          exact AllReadyH.nil
        exact AllReadyH.nil
      refine ready_alloc (o := { dst := some 9, op := Go.Op.alloc 30, type := 0, pos := _, after := #[], guard := none }) rfl rfl rfl (fun g118 W118 e118 z118 b118 => ⟨S112.out.below b118, ?_⟩) ?_
      ·
        have S118 := Lib.hid (S112.out.below b118)
        have Z118 := Lib.hid z118
        have Lg118 := Lib.hid (show w.heap.size + 1 < g118 from e118 ▸ S112.out.size)
        have Z1187x := Lib.hid (Z112.out.below b118)
        have NE1187 := Lib.hid (show g112 ≠ g118 by have := Z112.out.lt; omega)
        have EN1187 := Lib.hid NE1187.out.symm
        clear e118 z118 b118
        try simp only [Act.put, List.setIfInBounds_toArray, List.set_cons_zero, List.set_cons_succ]
        refine wpAnyH_ready (rs := [6]) (by kernel_rfl) (by simp) ?_
        refine ready_alloc (o := { dst := some 7, op := Go.Op.alloc 30, type := 0, pos := _, after := #[], guard := none }) rfl rfl rfl (fun g119 W119 e119 z119 b119 => ⟨S118.out.below b119, ?_⟩) ?_
        ·
          have S119 := Lib.hid (S118.out.below b119)
          have Z119 := Lib.hid z119
          have Lg119 := Lib.hid (show w.heap.size + 1 < g119 from e119 ▸ S118.out.size)
          have Z1197x := Lib.hid (Z1187x.out.below b119)
          have NE1197 := Lib.hid (show g112 ≠ g119 by have := Z1187x.out.lt; omega)
          have EN1197 := Lib.hid NE1197.out.symm
          have Z1198x := Lib.hid (Z118.out.below b119)
          have NE1198 := Lib.hid (show g118 ≠ g119 by have := Z118.out.lt; omega)
          have EN1198 := Lib.hid NE1198.out.symm
          clear e119 z119 b119
          try simp only [Act.put, List.setIfInBounds_toArray, List.set_cons_zero, List.set_cons_succ]
          refine wpAnyH_ready (rs := [9]) (by kernel_rfl) (by simp) ?_
          refine ready_store (o := { dst := none, op := Go.Op.store 30 (Go.Operand.tmp 7) (Go.Operand.tmp 18), type := 0, pos := _, after := #[{ on := 6, ground := Go.Ground.data }, { on := 1, ground := Go.Ground.data }, { on := 0, ground := Go.Ground.phase }, { on := 1, ground := Go.Ground.phase }, { on := 2, ground := Go.Ground.textOnly Go.Departure.lateStores }, { on := 3, ground := Go.Ground.textOnly Go.Departure.lateStores }, { on := 4, ground := Go.Ground.textOnly Go.Departure.lateStores }, { on := 5, ground := Go.Ground.textOnly Go.Departure.lateStores }, { on := 6, ground := Go.Ground.phase }, { on := 7, ground := Go.Ground.phase }, { on := 8, ground := Go.Ground.phase }], guard := none }) rfl rfl (.tmp 7) (.tmp 18) rfl g119 x rfl rfl Z119.out HX.out.tl (fun W120 z120 o120 => ⟨S119.out.only o120 Lg119.out, ?_⟩) ?_
          ·
            have S120 := Lib.hid (S119.out.only o120 Lg119.out)
            have Z120 := Lib.hid z120
            have Z1207x := Lib.hid (Z1197x.out.only o120 NE1197.out)
            have Z1208x := Lib.hid (Z1198x.out.only o120 NE1198.out)
            clear z120 o120
            simp only [Act.put]
            refine wpAnyH_ready (rs := [10]) (by kernel_rfl) (by simp) ?_
            refine ready_store (o := { dst := none, op := Go.Op.store 30 (Go.Operand.tmp 8) (Go.Operand.tmp 20), type := 0, pos := _, after := #[{ on := 7, ground := Go.Ground.data }, { on := 3, ground := Go.Ground.data }, { on := 9, ground := Go.Ground.chain }, { on := 0, ground := Go.Ground.phase }, { on := 1, ground := Go.Ground.phase }, { on := 2, ground := Go.Ground.phase }, { on := 3, ground := Go.Ground.phase }, { on := 4, ground := Go.Ground.textOnly Go.Departure.lateStores }, { on := 5, ground := Go.Ground.textOnly Go.Departure.lateStores }, { on := 6, ground := Go.Ground.phase }, { on := 7, ground := Go.Ground.phase }, { on := 8, ground := Go.Ground.phase }, { on := 9, ground := Go.Ground.phase }], guard := none }) rfl rfl (.tmp 8) (.tmp 20) rfl g112 y rfl rfl Z1207x.out HY.out.tl (fun W121 z121 o121 => ⟨S120.out.only o121 Lg112.out, ?_⟩) ?_
            ·
              have S121 := Lib.hid (S120.out.only o121 Lg112.out)
              have Z121 := Lib.hid z121
              have Z1218x := Lib.hid (Z1208x.out.only o121 EN1187.out)
              have Z1216x := Lib.hid (Z120.out.only o121 EN1197.out)
              clear z121 o121
              simp only [Act.put]
              refine wpAnyH_ready (rs := [11]) (by kernel_rfl) (by simp) ?_
              refine ready_store (o := { dst := none, op := Go.Op.store 30 (Go.Operand.tmp 9) (Go.Operand.tmp 22), type := 0, pos := _, after := #[{ on := 8, ground := Go.Ground.data }, { on := 5, ground := Go.Ground.data }, { on := 10, ground := Go.Ground.chain }, { on := 0, ground := Go.Ground.phase }, { on := 1, ground := Go.Ground.phase }, { on := 2, ground := Go.Ground.phase }, { on := 3, ground := Go.Ground.phase }, { on := 4, ground := Go.Ground.phase }, { on := 5, ground := Go.Ground.phase }, { on := 6, ground := Go.Ground.phase }, { on := 7, ground := Go.Ground.phase }, { on := 8, ground := Go.Ground.phase }, { on := 9, ground := Go.Ground.phase }, { on := 10, ground := Go.Ground.phase }], guard := none }) rfl rfl (.tmp 9) (.tmp 22) rfl g118 z rfl rfl Z1218x.out HZ.out.tl (fun W122 z122 o122 => ⟨S121.out.only o122 Lg118.out, ?_⟩) ?_
              ·
                have S122 := Lib.hid (S121.out.only o122 Lg118.out)
                have Z122 := Lib.hid z122
                have Z1226x := Lib.hid (Z1216x.out.only o122 EN1198.out)
                have Z1227x := Lib.hid (Z121.out.only o122 NE1187.out)
                clear z122 o122
                simp only [Act.put]
                refine wpAnyH_done (by kernel_rfl) ?_ _
                exact NoPanic.normal ⟨rfl, g119, g112, g118, rfl, Z1226x.out, Z1227x.out, Z122.out, S122.out⟩
              exact AllReadyH.nil
            exact AllReadyH.nil
          exact AllReadyH.nil
        exact AllReadyH.nil
      exact AllReadyH.nil
    refine ready_alloc (o := { dst := some 9, op := Go.Op.alloc 30, type := 0, pos := _, after := #[], guard := none }) rfl rfl rfl (fun g123 W123 e123 z123 b123 => ⟨S1.out.below b123, ?_⟩) ?_
    ·
      have S123 := Lib.hid (S1.out.below b123)
      have Z123 := Lib.hid z123
      have Lg123 := Lib.hid (show w.heap.size + 1 < g123 from e123 ▸ S1.out.size)
      clear e123 z123 b123
      try simp only [Act.put, List.setIfInBounds_toArray, List.set_cons_zero, List.set_cons_succ]
      refine wpAnyH_ready (rs := [6, 7]) (by kernel_rfl) (by simp) ?_
      refine ready_alloc (o := { dst := some 7, op := Go.Op.alloc 30, type := 0, pos := _, after := #[], guard := none }) rfl rfl rfl (fun g124 W124 e124 z124 b124 => ⟨S123.out.below b124, ?_⟩) ?_
      ·
        have S124 := Lib.hid (S123.out.below b124)
        have Z124 := Lib.hid z124
        have Lg124 := Lib.hid (show w.heap.size + 1 < g124 from e124 ▸ S123.out.size)
        have Z1248x := Lib.hid (Z123.out.below b124)
        have NE1248 := Lib.hid (show g123 ≠ g124 by have := Z123.out.lt; omega)
        have EN1248 := Lib.hid NE1248.out.symm
        clear e124 z124 b124
        try simp only [Act.put, List.setIfInBounds_toArray, List.set_cons_zero, List.set_cons_succ]
        refine wpAnyH_ready (rs := [7]) (by kernel_rfl) (by simp) ?_
        refine ready_alloc (o := { dst := some 8, op := Go.Op.alloc 30, type := 0, pos := _, after := #[], guard := none }) rfl rfl rfl (fun g125 W125 e125 z125 b125 => ⟨S124.out.below b125, ?_⟩) ?_
        ·
          have S125 := Lib.hid (S124.out.below b125)
          have Z125 := Lib.hid z125
          have Lg125 := Lib.hid (show w.heap.size + 1 < g125 from e125 ▸ S124.out.size)
          have Z1258x := Lib.hid (Z1248x.out.below b125)
          have NE1258 := Lib.hid (show g123 ≠ g125 by have := Z1248x.out.lt; omega)
          have EN1258 := Lib.hid NE1258.out.symm
          have Z1256x := Lib.hid (Z124.out.below b125)
          have NE1256 := Lib.hid (show g124 ≠ g125 by have := Z124.out.lt; omega)
          have EN1256 := Lib.hid NE1256.out.symm
          clear e125 z125 b125
          try simp only [Act.put, List.setIfInBounds_toArray, List.set_cons_zero, List.set_cons_succ]
          refine wpAnyH_ready (rs := [9]) (by kernel_rfl) (by simp) ?_
          refine ready_store (o := { dst := none, op := Go.Op.store 30 (Go.Operand.tmp 7) (Go.Operand.tmp 18), type := 0, pos := _, after := #[{ on := 6, ground := Go.Ground.data }, { on := 1, ground := Go.Ground.data }, { on := 0, ground := Go.Ground.phase }, { on := 1, ground := Go.Ground.phase }, { on := 2, ground := Go.Ground.textOnly Go.Departure.lateStores }, { on := 3, ground := Go.Ground.textOnly Go.Departure.lateStores }, { on := 4, ground := Go.Ground.textOnly Go.Departure.lateStores }, { on := 5, ground := Go.Ground.textOnly Go.Departure.lateStores }, { on := 6, ground := Go.Ground.phase }, { on := 7, ground := Go.Ground.phase }, { on := 8, ground := Go.Ground.phase }], guard := none }) rfl rfl (.tmp 7) (.tmp 18) rfl g124 x rfl rfl Z1256x.out HX.out.tl (fun W126 z126 o126 => ⟨S125.out.only o126 Lg124.out, ?_⟩) ?_
          ·
            have S126 := Lib.hid (S125.out.only o126 Lg124.out)
            have Z126 := Lib.hid z126
            have Z1268x := Lib.hid (Z1258x.out.only o126 NE1248.out)
            have Z1267x := Lib.hid (Z125.out.only o126 EN1256.out)
            clear z126 o126
            simp only [Act.put]
            refine wpAnyH_ready (rs := [10]) (by kernel_rfl) (by simp) ?_
            refine ready_store (o := { dst := none, op := Go.Op.store 30 (Go.Operand.tmp 8) (Go.Operand.tmp 20), type := 0, pos := _, after := #[{ on := 7, ground := Go.Ground.data }, { on := 3, ground := Go.Ground.data }, { on := 9, ground := Go.Ground.chain }, { on := 0, ground := Go.Ground.phase }, { on := 1, ground := Go.Ground.phase }, { on := 2, ground := Go.Ground.phase }, { on := 3, ground := Go.Ground.phase }, { on := 4, ground := Go.Ground.textOnly Go.Departure.lateStores }, { on := 5, ground := Go.Ground.textOnly Go.Departure.lateStores }, { on := 6, ground := Go.Ground.phase }, { on := 7, ground := Go.Ground.phase }, { on := 8, ground := Go.Ground.phase }, { on := 9, ground := Go.Ground.phase }], guard := none }) rfl rfl (.tmp 8) (.tmp 20) rfl g125 y rfl rfl Z1267x.out HY.out.tl (fun W127 z127 o127 => ⟨S126.out.only o127 Lg125.out, ?_⟩) ?_
            ·
              have S127 := Lib.hid (S126.out.only o127 Lg125.out)
              have Z127 := Lib.hid z127
              have Z1278x := Lib.hid (Z1268x.out.only o127 NE1258.out)
              have Z1276x := Lib.hid (Z126.out.only o127 NE1256.out)
              clear z127 o127
              simp only [Act.put]
              refine wpAnyH_ready (rs := [11]) (by kernel_rfl) (by simp) ?_
              refine ready_store (o := { dst := none, op := Go.Op.store 30 (Go.Operand.tmp 9) (Go.Operand.tmp 22), type := 0, pos := _, after := #[{ on := 8, ground := Go.Ground.data }, { on := 5, ground := Go.Ground.data }, { on := 10, ground := Go.Ground.chain }, { on := 0, ground := Go.Ground.phase }, { on := 1, ground := Go.Ground.phase }, { on := 2, ground := Go.Ground.phase }, { on := 3, ground := Go.Ground.phase }, { on := 4, ground := Go.Ground.phase }, { on := 5, ground := Go.Ground.phase }, { on := 6, ground := Go.Ground.phase }, { on := 7, ground := Go.Ground.phase }, { on := 8, ground := Go.Ground.phase }, { on := 9, ground := Go.Ground.phase }, { on := 10, ground := Go.Ground.phase }], guard := none }) rfl rfl (.tmp 9) (.tmp 22) rfl g123 z rfl rfl Z1278x.out HZ.out.tl (fun W128 z128 o128 => ⟨S127.out.only o128 Lg123.out, ?_⟩) ?_
              ·
                have S128 := Lib.hid (S127.out.only o128 Lg123.out)
                have Z128 := Lib.hid z128
                have Z1286x := Lib.hid (Z1276x.out.only o128 EN1248.out)
                have Z1287x := Lib.hid (Z127.out.only o128 EN1258.out)
                clear z128 o128
                simp only [Act.put]
                refine wpAnyH_done (by kernel_rfl) ?_ _
                exact NoPanic.normal ⟨rfl, g124, g125, g123, rfl, Z1286x.out, Z1287x.out, Z128.out, S128.out⟩
              exact AllReadyH.nil
            exact AllReadyH.nil
          exact AllReadyH.nil
        exact AllReadyH.nil
      refine ready_alloc (o := { dst := some 8, op := Go.Op.alloc 30, type := 0, pos := _, after := #[], guard := none }) rfl rfl rfl (fun g129 W129 e129 z129 b129 => ⟨S123.out.below b129, ?_⟩) ?_
      ·
        have S129 := Lib.hid (S123.out.below b129)
        have Z129 := Lib.hid z129
        have Lg129 := Lib.hid (show w.heap.size + 1 < g129 from e129 ▸ S123.out.size)
        have Z1298x := Lib.hid (Z123.out.below b129)
        have NE1298 := Lib.hid (show g123 ≠ g129 by have := Z123.out.lt; omega)
        have EN1298 := Lib.hid NE1298.out.symm
        clear e129 z129 b129
        try simp only [Act.put, List.setIfInBounds_toArray, List.set_cons_zero, List.set_cons_succ]
        refine wpAnyH_ready (rs := [6]) (by kernel_rfl) (by simp) ?_
        refine ready_alloc (o := { dst := some 7, op := Go.Op.alloc 30, type := 0, pos := _, after := #[], guard := none }) rfl rfl rfl (fun g130 W130 e130 z130 b130 => ⟨S129.out.below b130, ?_⟩) ?_
        ·
          have S130 := Lib.hid (S129.out.below b130)
          have Z130 := Lib.hid z130
          have Lg130 := Lib.hid (show w.heap.size + 1 < g130 from e130 ▸ S129.out.size)
          have Z1308x := Lib.hid (Z1298x.out.below b130)
          have NE1308 := Lib.hid (show g123 ≠ g130 by have := Z1298x.out.lt; omega)
          have EN1308 := Lib.hid NE1308.out.symm
          have Z1307x := Lib.hid (Z129.out.below b130)
          have NE1307 := Lib.hid (show g129 ≠ g130 by have := Z129.out.lt; omega)
          have EN1307 := Lib.hid NE1307.out.symm
          clear e130 z130 b130
          try simp only [Act.put, List.setIfInBounds_toArray, List.set_cons_zero, List.set_cons_succ]
          refine wpAnyH_ready (rs := [9]) (by kernel_rfl) (by simp) ?_
          refine ready_store (o := { dst := none, op := Go.Op.store 30 (Go.Operand.tmp 7) (Go.Operand.tmp 18), type := 0, pos := _, after := #[{ on := 6, ground := Go.Ground.data }, { on := 1, ground := Go.Ground.data }, { on := 0, ground := Go.Ground.phase }, { on := 1, ground := Go.Ground.phase }, { on := 2, ground := Go.Ground.textOnly Go.Departure.lateStores }, { on := 3, ground := Go.Ground.textOnly Go.Departure.lateStores }, { on := 4, ground := Go.Ground.textOnly Go.Departure.lateStores }, { on := 5, ground := Go.Ground.textOnly Go.Departure.lateStores }, { on := 6, ground := Go.Ground.phase }, { on := 7, ground := Go.Ground.phase }, { on := 8, ground := Go.Ground.phase }], guard := none }) rfl rfl (.tmp 7) (.tmp 18) rfl g130 x rfl rfl Z130.out HX.out.tl (fun W131 z131 o131 => ⟨S130.out.only o131 Lg130.out, ?_⟩) ?_
          ·
            have S131 := Lib.hid (S130.out.only o131 Lg130.out)
            have Z131 := Lib.hid z131
            have Z1318x := Lib.hid (Z1308x.out.only o131 NE1308.out)
            have Z1317x := Lib.hid (Z1307x.out.only o131 NE1307.out)
            clear z131 o131
            simp only [Act.put]
            refine wpAnyH_ready (rs := [10]) (by kernel_rfl) (by simp) ?_
            refine ready_store (o := { dst := none, op := Go.Op.store 30 (Go.Operand.tmp 8) (Go.Operand.tmp 20), type := 0, pos := _, after := #[{ on := 7, ground := Go.Ground.data }, { on := 3, ground := Go.Ground.data }, { on := 9, ground := Go.Ground.chain }, { on := 0, ground := Go.Ground.phase }, { on := 1, ground := Go.Ground.phase }, { on := 2, ground := Go.Ground.phase }, { on := 3, ground := Go.Ground.phase }, { on := 4, ground := Go.Ground.textOnly Go.Departure.lateStores }, { on := 5, ground := Go.Ground.textOnly Go.Departure.lateStores }, { on := 6, ground := Go.Ground.phase }, { on := 7, ground := Go.Ground.phase }, { on := 8, ground := Go.Ground.phase }, { on := 9, ground := Go.Ground.phase }], guard := none }) rfl rfl (.tmp 8) (.tmp 20) rfl g129 y rfl rfl Z1317x.out HY.out.tl (fun W132 z132 o132 => ⟨S131.out.only o132 Lg129.out, ?_⟩) ?_
            ·
              have S132 := Lib.hid (S131.out.only o132 Lg129.out)
              have Z132 := Lib.hid z132
              have Z1328x := Lib.hid (Z1318x.out.only o132 NE1298.out)
              have Z1326x := Lib.hid (Z131.out.only o132 EN1307.out)
              clear z132 o132
              simp only [Act.put]
              refine wpAnyH_ready (rs := [11]) (by kernel_rfl) (by simp) ?_
              refine ready_store (o := { dst := none, op := Go.Op.store 30 (Go.Operand.tmp 9) (Go.Operand.tmp 22), type := 0, pos := _, after := #[{ on := 8, ground := Go.Ground.data }, { on := 5, ground := Go.Ground.data }, { on := 10, ground := Go.Ground.chain }, { on := 0, ground := Go.Ground.phase }, { on := 1, ground := Go.Ground.phase }, { on := 2, ground := Go.Ground.phase }, { on := 3, ground := Go.Ground.phase }, { on := 4, ground := Go.Ground.phase }, { on := 5, ground := Go.Ground.phase }, { on := 6, ground := Go.Ground.phase }, { on := 7, ground := Go.Ground.phase }, { on := 8, ground := Go.Ground.phase }, { on := 9, ground := Go.Ground.phase }, { on := 10, ground := Go.Ground.phase }], guard := none }) rfl rfl (.tmp 9) (.tmp 22) rfl g123 z rfl rfl Z1328x.out HZ.out.tl (fun W133 z133 o133 => ⟨S132.out.only o133 Lg123.out, ?_⟩) ?_
              ·
                have S133 := Lib.hid (S132.out.only o133 Lg123.out)
                have Z133 := Lib.hid z133
                have Z1336x := Lib.hid (Z1326x.out.only o133 EN1308.out)
                have Z1337x := Lib.hid (Z132.out.only o133 EN1298.out)
                clear z133 o133
                simp only [Act.put]
                refine wpAnyH_done (by kernel_rfl) ?_ _
                exact NoPanic.normal ⟨rfl, g130, g129, g123, rfl, Z1336x.out, Z1337x.out, Z133.out, S133.out⟩
              exact AllReadyH.nil
            exact AllReadyH.nil
          exact AllReadyH.nil
        exact AllReadyH.nil
      exact AllReadyH.nil
    exact AllReadyH.nil
  rintro e act W ⟨rfl, g7, g8, g9, rfl, q7, q8, q9, ts⟩
  have Q7 := Lib.hid q7
  have Q8 := Lib.hid q8
  have Q9 := Lib.hid q9
  have S3 := Lib.hid ts
  clear q7 q8 q9 ts S0
  go_wp2_with (first
    | refine wpList_load_vl rfl _ rfl g7 0 x rfl Q7.out.range HX.out.tl ?_
    | refine wpList_load_vl rfl _ rfl g8 0 y rfl Q8.out.range HY.out.tl ?_)
  refine (HMC.out _).mono ?_
  rintro e w4 ⟨rfl, b4⟩
  have L7 := Lib.hid (Q7.out.below b4).lt
  have L8 := Lib.hid (Q8.out.below b4).lt
  have L9 := Lib.hid (Q9.out.below b4).lt
  have P7 := Lib.hid ((Q7.out.below b4).alloc (.cells vzero.cells.toArray 30))
  have P8 := Lib.hid ((Q8.out.below b4).alloc (.cells vzero.cells.toArray 30))
  have P9 := Lib.hid ((Q9.out.below b4).alloc (.cells vzero.cells.toArray 30))
  have LS := Lib.hid (S3.out.below b4).size
  have S4 := Lib.hid ((S3.out.below b4).below (new_below _ (.cells vzero.cells.toArray 30)))
  have N4 := Lib.hid (blk_alloc w4 30 vzero.cells)
  clear b4 HMC
  go_wp2_with (refine wpList_store_vl rfl _ _ rfl w4.heap.size vzero m rfl rfl N4.out rfl HMO.out.tl ?_; intro w5 N5 O5; have R7 := Lib.hid (P7.out.only O5.out (Nat.ne_of_lt L7.out)); have R8 := Lib.hid (P8.out.only O5.out (Nat.ne_of_lt L8.out)); have R9 := Lib.hid (P9.out.only O5.out (Nat.ne_of_lt L9.out)); have S5 := Lib.hid (S4.out.only O5.out LS.out); clear O5)
  clear Q7 Q8 Q9 P7 P8 P9 N4 S4 S3
  refine Code.wp_mono (Q := fun e act W => e = .normal ∧ Below w5.heap.size w5 W ∧ ∃ x26 x27 x28 x29 x30 x31 x32 x33 x34 x35 x36 x37 x38 x39 x40 x41 x42 x43 x44 x45 x46 x47 x48 x49 x50 x51 x52 x53 x54 x55 x56 x57 x58 x59 x60 x61 x62 x63 x64 x65 x66 x67 x68 x69 x70 x71 x72 x73 x74 x75 x76 x77 x78 x79 x80 x81 x82 x83 x84 x85 x86, act = (⟨#[.agg a.cells.toArray, .slice ad l.length cap, .agg (x.cells ++ (y.cells ++ z.cells)).toArray, .pointer (some ⟨w.heap.size, 0, none⟩), undef, .pointer (some ⟨w.heap.size + 1, 0, none⟩), .bool false, .pointer (some ⟨g7, 0, none⟩), .pointer (some ⟨g8, 0, none⟩), .pointer (some ⟨g9, 0, none⟩), .pointer (some ⟨w4.heap.size, 0, none⟩), undef, undef, .slice ad l.length cap, .int .i64 l.length, .bool false, undef, .pointer (some ⟨w.heap.size + 1, 0, none⟩), .agg x.cells.toArray, .pointer (some ⟨w.heap.size + 1, 9, none⟩), .agg y.cells.toArray, .pointer (some ⟨w.heap.size + 1, 18, none⟩), .agg z.cells.toArray, .agg x.cells.toArray, .agg y.cells.toArray, .agg m.cells.toArray, x26, x27, x28, x29, x30, x31, x32, x33, x34, x35, x36, x37, x38, x39, x40, x41, x42, x43, x44, x45, x46, x47, x48, x49, x50, x51, x52, x53, x54, x55, x56, x57, x58, x59, x60, x61, x62, x63, x64, x65, x66, x67, x68, x69, x70, x71, x72, x73, x74, x75, x76, x77, x78, x79, x80, x81, x82, x83, x84, x85, x86, .bool false, undef, undef, undef, undef, undef, undef, undef, undef, undef, undef, undef, undef, undef, undef, undef, undef, undef, undef, undef, undef, undef, undef, undef, undef, undef, undef, undef, undef, undef, undef, undef, undef, undef, undef, undef, undef, undef, undef, undef, undef, undef, undef, undef, undef, undef, undef], []⟩ : Act)) ?_ ?_
  rotate_left
  · have OMX : Hid (over m x = true) := Lib.hid (HM.out ▸ over_more_l x y)
    have OMY : Hid (over m y = true) := Lib.hid (HM.out ▸ over_more_r x y)
    cases hL : over x y with
    | true =>
      have HL := Lib.hid hL
      have hmx : m = x := by have h := HM.out; unfold more at h; rw [if_pos hL] at h; exact h.symm
      have EMX := Lib.hid (show decide (m = x) = true from decide_eq_true hmx)
      cases hM : over y x with
      | true =>
        have HMv := Lib.hid hM
        have exy : x = y := over_anti HX.out HY.out hL hM
        have EXY := Lib.hid (show decide (x = y) = true from decide_eq_true exy)
        cases hP : over y z with
        | true =>
          have HP := Lib.hid hP
          have HT := Lib.hid (over_trans hL hP)
          clear hL hM hP hmx exy
          simp only [Act.put]
          refine region_later (by kernel_rfl) (by kernel_rfl) ?_
          (go_big_quiet_want; refine quiet_load_vl (w4.heap.size) 0 m _ rfl rfl N5.out.range N5.out.lt HMO.out.tl ?_; go_simp; go_big_quiet_on)
          (go_big_quiet_want; refine quiet_load_vl g7 0 x _ rfl rfl R7.out.range R7.out.lt HX.out.tl ?_; go_simp; go_big_quiet_on)
          go_big_quiet_step (exact later_call (over_is m x true _ HMO.out HX.out OMX))
          go_big_quiet_step (fail)
          go_big_quiet_step (fail)
          (go_big_quiet_want; refine quiet_load_vl (w4.heap.size) 0 m _ rfl rfl N5.out.range N5.out.lt HMO.out.tl ?_; go_simp; go_big_quiet_on)
          (go_big_quiet_want; refine quiet_load_vl g8 0 y _ rfl rfl R8.out.range R8.out.lt HY.out.tl ?_; go_simp; go_big_quiet_on)
          go_big_quiet_step (exact later_call (over_is m y true _ HMO.out HY.out OMY))
          go_big_quiet_step (fail)
          go_big_quiet_step (fail)
          go_big_quiet_step (fail)
          (go_big_quiet_want; refine quiet_load_vl (w4.heap.size) 0 m _ rfl rfl N5.out.range N5.out.lt HMO.out.tl ?_; go_simp; go_big_quiet_on)
          (go_big_quiet_want; refine quiet_load_vl g7 0 x _ rfl rfl R7.out.range R7.out.lt HX.out.tl ?_; go_simp; go_big_quiet_on)
          (go_big_quiet_want; refine quiet_val (.bool false) (fun W => exec_neq_vlv (by rw [EMX.out]; rfl) rfl rfl rfl HMO.out.tl HX.out.tl) ?_; go_simp; go_big_quiet_on)
          go_big_quiet_step (fail)
          go_big_quiet_step (fail)
          go_big_quiet_step (fail)
          go_big_quiet_step (fail)
          go_big_quiet_step (fail)
          go_big_quiet_step (fail)
          go_big_quiet_step (fail)
          (go_big_quiet_want; refine quiet_load_vl g7 0 x _ rfl rfl R7.out.range R7.out.lt HX.out.tl ?_; go_simp; go_big_quiet_on)
          (go_big_quiet_want; refine quiet_load_vl g8 0 y _ rfl rfl R8.out.range R8.out.lt HY.out.tl ?_; go_simp; go_big_quiet_on)
          go_big_quiet_step (exact later_call (over_is x y true _ HX.out HY.out HL))
          go_big_quiet_step (fail)
          go_big_quiet_step (fail)
          go_big_quiet_step (fail)
          go_big_quiet_step (fail)
          go_big_quiet_step (fail)
          go_big_quiet_step (fail)
          go_big_quiet_step (fail)
          go_big_quiet_step (fail)
          go_big_quiet_step (fail)
          (go_big_quiet_want; refine quiet_load_vl g7 0 x _ rfl rfl R7.out.range R7.out.lt HX.out.tl ?_; go_simp; go_big_quiet_on)
          (go_big_quiet_want; refine quiet_load_vl g8 0 y _ rfl rfl R8.out.range R8.out.lt HY.out.tl ?_; go_simp; go_big_quiet_on)
          go_big_quiet_step (exact later_call (over_is x y true _ HX.out HY.out HL))
          go_big_quiet_step (fail)
          (go_big_quiet_want; refine quiet_load_vl g8 0 y _ rfl rfl R8.out.range R8.out.lt HY.out.tl ?_; go_simp; go_big_quiet_on)
          (go_big_quiet_want; refine quiet_load_vl g9 0 z _ rfl rfl R9.out.range R9.out.lt HZ.out.tl ?_; go_simp; go_big_quiet_on)
          go_big_quiet_step (exact later_call (over_is y z true _ HY.out HZ.out HP))
          go_big_quiet_step (fail)
          go_big_quiet_step (fail)
          (go_big_quiet_want; refine quiet_load_vl g7 0 x _ rfl rfl R7.out.range R7.out.lt HX.out.tl ?_; go_simp; go_big_quiet_on)
          (go_big_quiet_want; refine quiet_load_vl g9 0 z _ rfl rfl R9.out.range R9.out.lt HZ.out.tl ?_; go_simp; go_big_quiet_on)
          go_big_quiet_step (exact later_call (over_is x z true _ HX.out HZ.out HT))
          go_big_quiet_step (fail)
          go_big_quiet_step (fail)
          go_big_quiet_step (fail)
          go_big_quiet_step (fail)
          (go_big_quiet_want; refine quiet_load_vl g7 0 x _ rfl rfl R7.out.range R7.out.lt HX.out.tl ?_; go_simp; go_big_quiet_on)
          (go_big_quiet_want; refine quiet_load_vl g8 0 y _ rfl rfl R8.out.range R8.out.lt HY.out.tl ?_; go_simp; go_big_quiet_on)
          go_big_quiet_step (exact later_call (over_is x y true _ HX.out HY.out HL))
          go_big_quiet_step (fail)
          (go_big_quiet_want; refine quiet_load_vl g8 0 y _ rfl rfl R8.out.range R8.out.lt HY.out.tl ?_; go_simp; go_big_quiet_on)
          (go_big_quiet_want; refine quiet_load_vl g7 0 x _ rfl rfl R7.out.range R7.out.lt HX.out.tl ?_; go_simp; go_big_quiet_on)
          go_big_quiet_step (exact later_call (over_is y x true _ HY.out HX.out HMv))
          go_big_quiet_step (fail)
          (go_big_quiet_want; refine quiet_load_vl g7 0 x _ rfl rfl R7.out.range R7.out.lt HX.out.tl ?_; go_simp; go_big_quiet_on)
          (go_big_quiet_want; refine quiet_load_vl g8 0 y _ rfl rfl R8.out.range R8.out.lt HY.out.tl ?_; go_simp; go_big_quiet_on)
          (go_big_quiet_want; refine quiet_val (.bool true) (fun W => exec_eq_vlv EXY.out rfl rfl rfl HX.out.tl HY.out.tl) ?_; go_simp; go_big_quiet_on)
          go_big_quiet_step (fail)
          go_big_quiet_step (fail)
          refine wpQuiet_nil ?_
          intro w6 b6
          exact ⟨rfl, b6, _, _, _, _, _, _, _, _, _, _, _, _, _, _, _, _, _, _, _, _, _, _, _, _, _, _, _, _, _, _, _, _, _, _, _, _, _, _, _, _, _, _, _, _, _, _, _, _, _, _, _, _, _, _, _, _, _, _, _, _, _, rfl⟩
        | false =>
          have HP := Lib.hid hP
          clear hL hM hP hmx exy
          simp only [Act.put]
          refine region_later (by kernel_rfl) (by kernel_rfl) ?_
          (go_big_quiet_want; refine quiet_load_vl (w4.heap.size) 0 m _ rfl rfl N5.out.range N5.out.lt HMO.out.tl ?_; go_simp; go_big_quiet_on)
          (go_big_quiet_want; refine quiet_load_vl g7 0 x _ rfl rfl R7.out.range R7.out.lt HX.out.tl ?_; go_simp; go_big_quiet_on)
          go_big_quiet_step (exact later_call (over_is m x true _ HMO.out HX.out OMX))
          go_big_quiet_step (fail)
          go_big_quiet_step (fail)
          (go_big_quiet_want; refine quiet_load_vl (w4.heap.size) 0 m _ rfl rfl N5.out.range N5.out.lt HMO.out.tl ?_; go_simp; go_big_quiet_on)
          (go_big_quiet_want; refine quiet_load_vl g8 0 y _ rfl rfl R8.out.range R8.out.lt HY.out.tl ?_; go_simp; go_big_quiet_on)
          go_big_quiet_step (exact later_call (over_is m y true _ HMO.out HY.out OMY))
          go_big_quiet_step (fail)
          go_big_quiet_step (fail)
          go_big_quiet_step (fail)
          (go_big_quiet_want; refine quiet_load_vl (w4.heap.size) 0 m _ rfl rfl N5.out.range N5.out.lt HMO.out.tl ?_; go_simp; go_big_quiet_on)
          (go_big_quiet_want; refine quiet_load_vl g7 0 x _ rfl rfl R7.out.range R7.out.lt HX.out.tl ?_; go_simp; go_big_quiet_on)
          (go_big_quiet_want; refine quiet_val (.bool false) (fun W => exec_neq_vlv (by rw [EMX.out]; rfl) rfl rfl rfl HMO.out.tl HX.out.tl) ?_; go_simp; go_big_quiet_on)
          go_big_quiet_step (fail)
          go_big_quiet_step (fail)
          go_big_quiet_step (fail)
          go_big_quiet_step (fail)
          go_big_quiet_step (fail)
          go_big_quiet_step (fail)
          go_big_quiet_step (fail)
          (go_big_quiet_want; refine quiet_load_vl g7 0 x _ rfl rfl R7.out.range R7.out.lt HX.out.tl ?_; go_simp; go_big_quiet_on)
          (go_big_quiet_want; refine quiet_load_vl g8 0 y _ rfl rfl R8.out.range R8.out.lt HY.out.tl ?_; go_simp; go_big_quiet_on)
          go_big_quiet_step (exact later_call (over_is x y true _ HX.out HY.out HL))
          go_big_quiet_step (fail)
          go_big_quiet_step (fail)
          go_big_quiet_step (fail)
          go_big_quiet_step (fail)
          go_big_quiet_step (fail)
          go_big_quiet_step (fail)
          go_big_quiet_step (fail)
          go_big_quiet_step (fail)
          go_big_quiet_step (fail)
          (go_big_quiet_want; refine quiet_load_vl g7 0 x _ rfl rfl R7.out.range R7.out.lt HX.out.tl ?_; go_simp; go_big_quiet_on)
          (go_big_quiet_want; refine quiet_load_vl g8 0 y _ rfl rfl R8.out.range R8.out.lt HY.out.tl ?_; go_simp; go_big_quiet_on)
          go_big_quiet_step (exact later_call (over_is x y true _ HX.out HY.out HL))
          go_big_quiet_step (fail)
          (go_big_quiet_want; refine quiet_load_vl g8 0 y _ rfl rfl R8.out.range R8.out.lt HY.out.tl ?_; go_simp; go_big_quiet_on)
          (go_big_quiet_want; refine quiet_load_vl g9 0 z _ rfl rfl R9.out.range R9.out.lt HZ.out.tl ?_; go_simp; go_big_quiet_on)
          go_big_quiet_step (exact later_call (over_is y z false _ HY.out HZ.out HP))
          go_big_quiet_step (fail)
          go_big_quiet_step (fail)
          go_big_quiet_step (fail)
          go_big_quiet_step (fail)
          go_big_quiet_step (fail)
          go_big_quiet_step (fail)
          go_big_quiet_step (fail)
          go_big_quiet_step (fail)
          go_big_quiet_step (fail)
          (go_big_quiet_want; refine quiet_load_vl g7 0 x _ rfl rfl R7.out.range R7.out.lt HX.out.tl ?_; go_simp; go_big_quiet_on)
          (go_big_quiet_want; refine quiet_load_vl g8 0 y _ rfl rfl R8.out.range R8.out.lt HY.out.tl ?_; go_simp; go_big_quiet_on)
          go_big_quiet_step (exact later_call (over_is x y true _ HX.out HY.out HL))
          go_big_quiet_step (fail)
          (go_big_quiet_want; refine quiet_load_vl g8 0 y _ rfl rfl R8.out.range R8.out.lt HY.out.tl ?_; go_simp; go_big_quiet_on)
          (go_big_quiet_want; refine quiet_load_vl g7 0 x _ rfl rfl R7.out.range R7.out.lt HX.out.tl ?_; go_simp; go_big_quiet_on)
          go_big_quiet_step (exact later_call (over_is y x true _ HY.out HX.out HMv))
          go_big_quiet_step (fail)
          (go_big_quiet_want; refine quiet_load_vl g7 0 x _ rfl rfl R7.out.range R7.out.lt HX.out.tl ?_; go_simp; go_big_quiet_on)
          (go_big_quiet_want; refine quiet_load_vl g8 0 y _ rfl rfl R8.out.range R8.out.lt HY.out.tl ?_; go_simp; go_big_quiet_on)
          (go_big_quiet_want; refine quiet_val (.bool true) (fun W => exec_eq_vlv EXY.out rfl rfl rfl HX.out.tl HY.out.tl) ?_; go_simp; go_big_quiet_on)
          go_big_quiet_step (fail)
          go_big_quiet_step (fail)
          refine wpQuiet_nil ?_
          intro w6 b6
          exact ⟨rfl, b6, _, _, _, _, _, _, _, _, _, _, _, _, _, _, _, _, _, _, _, _, _, _, _, _, _, _, _, _, _, _, _, _, _, _, _, _, _, _, _, _, _, _, _, _, _, _, _, _, _, _, _, _, _, _, _, _, _, _, _, _, _, rfl⟩
      | false =>
        have HMv := Lib.hid hM
        have exy : ¬ x = y := fun e => by rw [e, over_self] at hM; cases hM
        have EXY := Lib.hid (show decide (x = y) = false from decide_eq_false exy)
        cases hP : over y z with
        | true =>
          have HP := Lib.hid hP
          have HT := Lib.hid (over_trans hL hP)
          clear hL hM hP hmx exy
          simp only [Act.put]
          refine region_later (by kernel_rfl) (by kernel_rfl) ?_
          (go_big_quiet_want; refine quiet_load_vl (w4.heap.size) 0 m _ rfl rfl N5.out.range N5.out.lt HMO.out.tl ?_; go_simp; go_big_quiet_on)
          (go_big_quiet_want; refine quiet_load_vl g7 0 x _ rfl rfl R7.out.range R7.out.lt HX.out.tl ?_; go_simp; go_big_quiet_on)
          go_big_quiet_step (exact later_call (over_is m x true _ HMO.out HX.out OMX))
          go_big_quiet_step (fail)
          go_big_quiet_step (fail)
          (go_big_quiet_want; refine quiet_load_vl (w4.heap.size) 0 m _ rfl rfl N5.out.range N5.out.lt HMO.out.tl ?_; go_simp; go_big_quiet_on)
          (go_big_quiet_want; refine quiet_load_vl g8 0 y _ rfl rfl R8.out.range R8.out.lt HY.out.tl ?_; go_simp; go_big_quiet_on)
          go_big_quiet_step (exact later_call (over_is m y true _ HMO.out HY.out OMY))
          go_big_quiet_step (fail)
          go_big_quiet_step (fail)
          go_big_quiet_step (fail)
          (go_big_quiet_want; refine quiet_load_vl (w4.heap.size) 0 m _ rfl rfl N5.out.range N5.out.lt HMO.out.tl ?_; go_simp; go_big_quiet_on)
          (go_big_quiet_want; refine quiet_load_vl g7 0 x _ rfl rfl R7.out.range R7.out.lt HX.out.tl ?_; go_simp; go_big_quiet_on)
          (go_big_quiet_want; refine quiet_val (.bool false) (fun W => exec_neq_vlv (by rw [EMX.out]; rfl) rfl rfl rfl HMO.out.tl HX.out.tl) ?_; go_simp; go_big_quiet_on)
          go_big_quiet_step (fail)
          go_big_quiet_step (fail)
          go_big_quiet_step (fail)
          go_big_quiet_step (fail)
          go_big_quiet_step (fail)
          go_big_quiet_step (fail)
          go_big_quiet_step (fail)
          (go_big_quiet_want; refine quiet_load_vl g7 0 x _ rfl rfl R7.out.range R7.out.lt HX.out.tl ?_; go_simp; go_big_quiet_on)
          (go_big_quiet_want; refine quiet_load_vl g8 0 y _ rfl rfl R8.out.range R8.out.lt HY.out.tl ?_; go_simp; go_big_quiet_on)
          go_big_quiet_step (exact later_call (over_is x y true _ HX.out HY.out HL))
          go_big_quiet_step (fail)
          go_big_quiet_step (fail)
          go_big_quiet_step (fail)
          go_big_quiet_step (fail)
          go_big_quiet_step (fail)
          go_big_quiet_step (fail)
          go_big_quiet_step (fail)
          go_big_quiet_step (fail)
          go_big_quiet_step (fail)
          (go_big_quiet_want; refine quiet_load_vl g7 0 x _ rfl rfl R7.out.range R7.out.lt HX.out.tl ?_; go_simp; go_big_quiet_on)
          (go_big_quiet_want; refine quiet_load_vl g8 0 y _ rfl rfl R8.out.range R8.out.lt HY.out.tl ?_; go_simp; go_big_quiet_on)
          go_big_quiet_step (exact later_call (over_is x y true _ HX.out HY.out HL))
          go_big_quiet_step (fail)
          (go_big_quiet_want; refine quiet_load_vl g8 0 y _ rfl rfl R8.out.range R8.out.lt HY.out.tl ?_; go_simp; go_big_quiet_on)
          (go_big_quiet_want; refine quiet_load_vl g9 0 z _ rfl rfl R9.out.range R9.out.lt HZ.out.tl ?_; go_simp; go_big_quiet_on)
          go_big_quiet_step (exact later_call (over_is y z true _ HY.out HZ.out HP))
          go_big_quiet_step (fail)
          go_big_quiet_step (fail)
          (go_big_quiet_want; refine quiet_load_vl g7 0 x _ rfl rfl R7.out.range R7.out.lt HX.out.tl ?_; go_simp; go_big_quiet_on)
          (go_big_quiet_want; refine quiet_load_vl g9 0 z _ rfl rfl R9.out.range R9.out.lt HZ.out.tl ?_; go_simp; go_big_quiet_on)
          go_big_quiet_step (exact later_call (over_is x z true _ HX.out HZ.out HT))
          go_big_quiet_step (fail)
          go_big_quiet_step (fail)
          go_big_quiet_step (fail)
          go_big_quiet_step (fail)
          (go_big_quiet_want; refine quiet_load_vl g7 0 x _ rfl rfl R7.out.range R7.out.lt HX.out.tl ?_; go_simp; go_big_quiet_on)
          (go_big_quiet_want; refine quiet_load_vl g8 0 y _ rfl rfl R8.out.range R8.out.lt HY.out.tl ?_; go_simp; go_big_quiet_on)
          go_big_quiet_step (exact later_call (over_is x y true _ HX.out HY.out HL))
          go_big_quiet_step (fail)
          (go_big_quiet_want; refine quiet_load_vl g8 0 y _ rfl rfl R8.out.range R8.out.lt HY.out.tl ?_; go_simp; go_big_quiet_on)
          (go_big_quiet_want; refine quiet_load_vl g7 0 x _ rfl rfl R7.out.range R7.out.lt HX.out.tl ?_; go_simp; go_big_quiet_on)
          go_big_quiet_step (exact later_call (over_is y x false _ HY.out HX.out HMv))
          go_big_quiet_step (fail)
          (go_big_quiet_want; refine quiet_load_vl g7 0 x _ rfl rfl R7.out.range R7.out.lt HX.out.tl ?_; go_simp; go_big_quiet_on)
          (go_big_quiet_want; refine quiet_load_vl g8 0 y _ rfl rfl R8.out.range R8.out.lt HY.out.tl ?_; go_simp; go_big_quiet_on)
          (go_big_quiet_want; refine quiet_val (.bool false) (fun W => exec_eq_vlv EXY.out rfl rfl rfl HX.out.tl HY.out.tl) ?_; go_simp; go_big_quiet_on)
          go_big_quiet_step (fail)
          go_big_quiet_step (fail)
          refine wpQuiet_nil ?_
          intro w6 b6
          exact ⟨rfl, b6, _, _, _, _, _, _, _, _, _, _, _, _, _, _, _, _, _, _, _, _, _, _, _, _, _, _, _, _, _, _, _, _, _, _, _, _, _, _, _, _, _, _, _, _, _, _, _, _, _, _, _, _, _, _, _, _, _, _, _, _, _, rfl⟩
        | false =>
          have HP := Lib.hid hP
          clear hL hM hP hmx exy
          simp only [Act.put]
          refine region_later (by kernel_rfl) (by kernel_rfl) ?_
          (go_big_quiet_want; refine quiet_load_vl (w4.heap.size) 0 m _ rfl rfl N5.out.range N5.out.lt HMO.out.tl ?_; go_simp; go_big_quiet_on)
          (go_big_quiet_want; refine quiet_load_vl g7 0 x _ rfl rfl R7.out.range R7.out.lt HX.out.tl ?_; go_simp; go_big_quiet_on)
          go_big_quiet_step (exact later_call (over_is m x true _ HMO.out HX.out OMX))
          go_big_quiet_step (fail)
          go_big_quiet_step (fail)
          (go_big_quiet_want; refine quiet_load_vl (w4.heap.size) 0 m _ rfl rfl N5.out.range N5.out.lt HMO.out.tl ?_; go_simp; go_big_quiet_on)
          (go_big_quiet_want; refine quiet_load_vl g8 0 y _ rfl rfl R8.out.range R8.out.lt HY.out.tl ?_; go_simp; go_big_quiet_on)
          go_big_quiet_step (exact later_call (over_is m y true _ HMO.out HY.out OMY))
          go_big_quiet_step (fail)
          go_big_quiet_step (fail)
          go_big_quiet_step (fail)
          (go_big_quiet_want; refine quiet_load_vl (w4.heap.size) 0 m _ rfl rfl N5.out.range N5.out.lt HMO.out.tl ?_; go_simp; go_big_quiet_on)
          (go_big_quiet_want; refine quiet_load_vl g7 0 x _ rfl rfl R7.out.range R7.out.lt HX.out.tl ?_; go_simp; go_big_quiet_on)
          (go_big_quiet_want; refine quiet_val (.bool false) (fun W => exec_neq_vlv (by rw [EMX.out]; rfl) rfl rfl rfl HMO.out.tl HX.out.tl) ?_; go_simp; go_big_quiet_on)
          go_big_quiet_step (fail)
          go_big_quiet_step (fail)
          go_big_quiet_step (fail)
          go_big_quiet_step (fail)
          go_big_quiet_step (fail)
          go_big_quiet_step (fail)
          go_big_quiet_step (fail)
          (go_big_quiet_want; refine quiet_load_vl g7 0 x _ rfl rfl R7.out.range R7.out.lt HX.out.tl ?_; go_simp; go_big_quiet_on)
          (go_big_quiet_want; refine quiet_load_vl g8 0 y _ rfl rfl R8.out.range R8.out.lt HY.out.tl ?_; go_simp; go_big_quiet_on)
          go_big_quiet_step (exact later_call (over_is x y true _ HX.out HY.out HL))
          go_big_quiet_step (fail)
          go_big_quiet_step (fail)
          go_big_quiet_step (fail)
          go_big_quiet_step (fail)
          go_big_quiet_step (fail)
          go_big_quiet_step (fail)
          go_big_quiet_step (fail)
          go_big_quiet_step (fail)
          go_big_quiet_step (fail)
          (go_big_quiet_want; refine quiet_load_vl g7 0 x _ rfl rfl R7.out.range R7.out.lt HX.out.tl ?_; go_simp; go_big_quiet_on)
          (go_big_quiet_want; refine quiet_load_vl g8 0 y _ rfl rfl R8.out.range R8.out.lt HY.out.tl ?_; go_simp; go_big_quiet_on)
          go_big_quiet_step (exact later_call (over_is x y true _ HX.out HY.out HL))
          go_big_quiet_step (fail)
          (go_big_quiet_want; refine quiet_load_vl g8 0 y _ rfl rfl R8.out.range R8.out.lt HY.out.tl ?_; go_simp; go_big_quiet_on)
          (go_big_quiet_want; refine quiet_load_vl g9 0 z _ rfl rfl R9.out.range R9.out.lt HZ.out.tl ?_; go_simp; go_big_quiet_on)
          go_big_quiet_step (exact later_call (over_is y z false _ HY.out HZ.out HP))
          go_big_quiet_step (fail)
          go_big_quiet_step (fail)
          go_big_quiet_step (fail)
          go_big_quiet_step (fail)
          go_big_quiet_step (fail)
          go_big_quiet_step (fail)
          go_big_quiet_step (fail)
          go_big_quiet_step (fail)
          go_big_quiet_step (fail)
          (go_big_quiet_want; refine quiet_load_vl g7 0 x _ rfl rfl R7.out.range R7.out.lt HX.out.tl ?_; go_simp; go_big_quiet_on)
          (go_big_quiet_want; refine quiet_load_vl g8 0 y _ rfl rfl R8.out.range R8.out.lt HY.out.tl ?_; go_simp; go_big_quiet_on)
          go_big_quiet_step (exact later_call (over_is x y true _ HX.out HY.out HL))
          go_big_quiet_step (fail)
          (go_big_quiet_want; refine quiet_load_vl g8 0 y _ rfl rfl R8.out.range R8.out.lt HY.out.tl ?_; go_simp; go_big_quiet_on)
          (go_big_quiet_want; refine quiet_load_vl g7 0 x _ rfl rfl R7.out.range R7.out.lt HX.out.tl ?_; go_simp; go_big_quiet_on)
          go_big_quiet_step (exact later_call (over_is y x false _ HY.out HX.out HMv))
          go_big_quiet_step (fail)
          (go_big_quiet_want; refine quiet_load_vl g7 0 x _ rfl rfl R7.out.range R7.out.lt HX.out.tl ?_; go_simp; go_big_quiet_on)
          (go_big_quiet_want; refine quiet_load_vl g8 0 y _ rfl rfl R8.out.range R8.out.lt HY.out.tl ?_; go_simp; go_big_quiet_on)
          (go_big_quiet_want; refine quiet_val (.bool false) (fun W => exec_eq_vlv EXY.out rfl rfl rfl HX.out.tl HY.out.tl) ?_; go_simp; go_big_quiet_on)
          go_big_quiet_step (fail)
          go_big_quiet_step (fail)
          refine wpQuiet_nil ?_
          intro w6 b6
          exact ⟨rfl, b6, _, _, _, _, _, _, _, _, _, _, _, _, _, _, _, _, _, _, _, _, _, _, _, _, _, _, _, _, _, _, _, _, _, _, _, _, _, _, _, _, _, _, _, _, _, _, _, _, _, _, _, _, _, _, _, _, _, _, _, _, _, rfl⟩
    | false =>
      have HL := Lib.hid hL
      have HMv := Lib.hid (over_total x y hL)
      have hmy : m = y := by have h := HM.out; unfold more at h; rw [if_neg (by rw [hL]; decide)] at h; exact h.symm
      have EMY := Lib.hid (show decide (m = y) = true from decide_eq_true hmy)
      have exy : ¬ x = y := fun e => by rw [e, over_self] at hL; cases hL
      have EXY := Lib.hid (show decide (x = y) = false from decide_eq_false exy)
      have EMX := Lib.hid (show decide (m = x) = false from decide_eq_false fun e => exy (e.symm.trans hmy))
      clear hL hmy exy
      simp only [Act.put]
      refine region_later (by kernel_rfl) (by kernel_rfl) ?_
      (go_big_quiet_want; refine quiet_load_vl (w4.heap.size) 0 m _ rfl rfl N5.out.range N5.out.lt HMO.out.tl ?_; go_simp; go_big_quiet_on)
      (go_big_quiet_want; refine quiet_load_vl g7 0 x _ rfl rfl R7.out.range R7.out.lt HX.out.tl ?_; go_simp; go_big_quiet_on)
      go_big_quiet_step (exact later_call (over_is m x true _ HMO.out HX.out OMX))
      go_big_quiet_step (fail)
      go_big_quiet_step (fail)
      (go_big_quiet_want; refine quiet_load_vl (w4.heap.size) 0 m _ rfl rfl N5.out.range N5.out.lt HMO.out.tl ?_; go_simp; go_big_quiet_on)
      (go_big_quiet_want; refine quiet_load_vl g8 0 y _ rfl rfl R8.out.range R8.out.lt HY.out.tl ?_; go_simp; go_big_quiet_on)
      go_big_quiet_step (exact later_call (over_is m y true _ HMO.out HY.out OMY))
      go_big_quiet_step (fail)
      go_big_quiet_step (fail)
      go_big_quiet_step (fail)
      (go_big_quiet_want; refine quiet_load_vl (w4.heap.size) 0 m _ rfl rfl N5.out.range N5.out.lt HMO.out.tl ?_; go_simp; go_big_quiet_on)
      (go_big_quiet_want; refine quiet_load_vl g7 0 x _ rfl rfl R7.out.range R7.out.lt HX.out.tl ?_; go_simp; go_big_quiet_on)
      (go_big_quiet_want; refine quiet_val (.bool true) (fun W => exec_neq_vlv (by rw [EMX.out]; rfl) rfl rfl rfl HMO.out.tl HX.out.tl) ?_; go_simp; go_big_quiet_on)
      go_big_quiet_step (fail)
      (go_big_quiet_want; refine quiet_load_vl (w4.heap.size) 0 m _ rfl rfl N5.out.range N5.out.lt HMO.out.tl ?_; go_simp; go_big_quiet_on)
      (go_big_quiet_want; refine quiet_load_vl g8 0 y _ rfl rfl R8.out.range R8.out.lt HY.out.tl ?_; go_simp; go_big_quiet_on)
      (go_big_quiet_want; refine quiet_val (.bool false) (fun W => exec_neq_vlv (by rw [EMY.out]; rfl) rfl rfl rfl HMO.out.tl HY.out.tl) ?_; go_simp; go_big_quiet_on)
      go_big_quiet_step (fail)
      go_big_quiet_step (fail)
      go_big_quiet_step (fail)
      (go_big_quiet_want; refine quiet_load_vl g7 0 x _ rfl rfl R7.out.range R7.out.lt HX.out.tl ?_; go_simp; go_big_quiet_on)
      (go_big_quiet_want; refine quiet_load_vl g8 0 y _ rfl rfl R8.out.range R8.out.lt HY.out.tl ?_; go_simp; go_big_quiet_on)
      go_big_quiet_step (exact later_call (over_is x y false _ HX.out HY.out HL))
      go_big_quiet_step (fail)
      go_big_quiet_step (fail)
      (go_big_quiet_want; refine quiet_load_vl g8 0 y _ rfl rfl R8.out.range R8.out.lt HY.out.tl ?_; go_simp; go_big_quiet_on)
      (go_big_quiet_want; refine quiet_load_vl g7 0 x _ rfl rfl R7.out.range R7.out.lt HX.out.tl ?_; go_simp; go_big_quiet_on)
      go_big_quiet_step (exact later_call (over_is y x true _ HY.out HX.out HMv))
      go_big_quiet_step (fail)
      go_big_quiet_step (fail)
      go_big_quiet_step (fail)
      go_big_quiet_step (fail)
      (go_big_quiet_want; refine quiet_load_vl g7 0 x _ rfl rfl R7.out.range R7.out.lt HX.out.tl ?_; go_simp; go_big_quiet_on)
      (go_big_quiet_want; refine quiet_load_vl g8 0 y _ rfl rfl R8.out.range R8.out.lt HY.out.tl ?_; go_simp; go_big_quiet_on)
      go_big_quiet_step (exact later_call (over_is x y false _ HX.out HY.out HL))
      go_big_quiet_step (fail)
      go_big_quiet_step (fail)
      go_big_quiet_step (fail)
      go_big_quiet_step (fail)
      go_big_quiet_step (fail)
      go_big_quiet_step (fail)
      go_big_quiet_step (fail)
      go_big_quiet_step (fail)
      go_big_quiet_step (fail)
      go_big_quiet_step (fail)
      go_big_quiet_step (fail)
      go_big_quiet_step (fail)
      go_big_quiet_step (fail)
      (go_big_quiet_want; refine quiet_load_vl g7 0 x _ rfl rfl R7.out.range R7.out.lt HX.out.tl ?_; go_simp; go_big_quiet_on)
      (go_big_quiet_want; refine quiet_load_vl g8 0 y _ rfl rfl R8.out.range R8.out.lt HY.out.tl ?_; go_simp; go_big_quiet_on)
      go_big_quiet_step (exact later_call (over_is x y false _ HX.out HY.out HL))
      go_big_quiet_step (fail)
      go_big_quiet_step (fail)
      go_big_quiet_step (fail)
      go_big_quiet_step (fail)
      go_big_quiet_step (fail)
      (go_big_quiet_want; refine quiet_load_vl g7 0 x _ rfl rfl R7.out.range R7.out.lt HX.out.tl ?_; go_simp; go_big_quiet_on)
      (go_big_quiet_want; refine quiet_load_vl g8 0 y _ rfl rfl R8.out.range R8.out.lt HY.out.tl ?_; go_simp; go_big_quiet_on)
      (go_big_quiet_want; refine quiet_val (.bool false) (fun W => exec_eq_vlv EXY.out rfl rfl rfl HX.out.tl HY.out.tl) ?_; go_simp; go_big_quiet_on)
      go_big_quiet_step (fail)
      go_big_quiet_step (fail)
      refine wpQuiet_nil ?_
      intro w6 b6
      exact ⟨rfl, b6, _, _, _, _, _, _, _, _, _, _, _, _, _, _, _, _, _, _, _, _, _, _, _, _, _, _, _, _, _, _, _, _, _, _, _, _, _, _, _, _, _, _, _, _, _, _, _, _, _, _, _, _, _, _, _, _, _, _, _, _, _, rfl⟩
  rintro e act w6 ⟨rfl, b6, x26, x27, x28, x29, x30, x31, x32, x33, x34, x35, x36, x37, x38, x39, x40, x41, x42, x43, x44, x45, x46, x47, x48, x49, x50, x51, x52, x53, x54, x55, x56, x57, x58, x59, x60, x61, x62, x63, x64, x65, x66, x67, x68, x69, x70, x71, x72, x73, x74, x75, x76, x77, x78, x79, x80, x81, x82, x83, x84, x85, x86, rfl⟩
  have A6 := Lib.hid (S5.out.below b6).one
  have B6 := Lib.hid (S5.out.below b6).bel
  clear b6 S5 R7 R8 R9 N5 HM HMO HX HY HZ L7 L8 L9 LS
  cases hr : a.right with
  | false =>
    have HR := Lib.hid hr
    have E0 := Lib.hid (show (abytes a).length = 0 by unfold abytes; rw [hr]; rfl)
    clear hr
    go_wp2_with (refine wpList_load_am rfl _ rfl w.heap.size a rfl A6.out HA.out ?_)
    refine (aright_is a false _ HA.out HR).mono ?_
    rintro e w7 ⟨rfl, b7⟩
    have A7 := Lib.hid (A6.out.below b7)
    have B7 := Lib.hid (step_ B6.out b7)
    clear b7
    go_wp2_with (refine wpList_load_am rfl _ rfl w.heap.size a rfl A7.out HA.out ?_)
    refine (asize_is a 0 _ HA.out E0).mono ?_
    rintro e w8 ⟨rfl, b8⟩
    have B8 := Lib.hid (step_ B7.out b8)
    clear b8
    go_wp2_with fail
    refine (alive_is _).mono ?_
    rintro e w9 ⟨rfl, b9⟩
    have B9 := Lib.hid (step_ B8.out b9)
    clear b9
    go_wp2_with fail
    go_ret
    exact ⟨rfl, B9.out⟩
  | true =>
    have HR := Lib.hid hr
    have EB := Lib.hid (show abytes a = aenc a by unfold abytes; rw [hr]; rfl)
    have KL := Lib.hid (aenc_len HA.out)
    clear hr
    go_wp2_with (refine wpList_load_am rfl _ rfl w.heap.size a rfl A6.out HA.out ?_)
    refine (aright_is a true _ HA.out HR).mono ?_
    rintro e w7 ⟨rfl, b7⟩
    have A7 := Lib.hid (A6.out.below b7)
    have B7 := Lib.hid (step_ B6.out b7)
    clear b7
    go_wp2_with fail
    refine (new_is _).mono ?_
    rintro e w8 ⟨rfl, hw8, b8⟩
    have W8 := Lib.hid hw8
    have A8 := Lib.hid (A7.out.below b8)
    have B8 := Lib.hid (step_ B7.out b8)
    have L8 := Lib.hid A7.out.lt
    have B78 := Lib.hid B7.out.size
    clear hw8 b8
    go_wp2_with (refine wpList_load_am rfl _ rfl w.heap.size a rfl A8.out HA.out ?_)
    refine (awrite_is w7.heap.size [] a _ W8.out HA.out (by simp) HR.out).mono ?_
    rintro e w9 ⟨⟨y9, rfl⟩, hw9, b9, k9⟩
    rw [List.nil_append] at hw9
    have W9 := Lib.hid hw9
    have A9 := Lib.hid (k9 _ _ _ (by decide) (Nat.ne_of_lt L8.out) A8.out)
    have B9 := Lib.hid (B8.out.trans (b9.mono B78.out))
    have KB := Lib.hid (show M.Bytes (aenc a) from by obtain ⟨_, _, _, h⟩ := hw9; exact h)
    have P9 := Lib.hid (owns_empty w9 w9.heap.size (Nat.le_refl _))
    have T9 := Lib.hid (new_below w9 (.cells #[] 5))
    have V9 := Lib.hid (W9.out.below T9.out)
    clear hw9 b9 k9
    go_wp2_with fail
    refine (out_is w7.heap.size (aenc a) _ V9.out (by have := KL.out; omega)).mono ?_
    rintro e w10 ⟨v10, rfl, hv10, b10⟩
    have V10 := Lib.hid hv10
    have T10 := Lib.hid (step_ T9.out b10)
    have P10 := Lib.hid (owns_below P9.out b10)
    have M10 := Lib.hid (HV.out.below (step_ B9.out T10.out))
    have Z10 := Lib.hid T10.out.size
    clear hv10 b10
    go_wp2_with (first
      | (at_builtin; refine app_bytesK _ rfl (.tmp 101) (.tmp 103) rfl w9.heap.size _ _ [] (aenc a) rfl P10.out rfl V10.out (by have := KL.out; simp; omega) Z10.out ?_; intro v11 w11 hown11 hbel11 hk11; have P11 := Lib.hid (show w11.ownsRow w9.heap.size 5 1 v11 (aenc a).length ((aenc a).map (Value.int .u8)) from hown11); have T11 := Lib.hid (T10.out.trans hbel11); have M11 := Lib.hid (HV.out.below (step_ B9.out T11.out)); clear hown11 hbel11 hk11)
      | (at_builtin; refine app_bytesK _ rfl (.tmp 104) (.tmp 105) rfl w9.heap.size _ _ (aenc a) l rfl P11.out rfl M11.out (by have := KL.out; have := HN.out; omega) T11.out.size ?_; intro v12 w12 hown12 hbel12 hk12; have P12 := Lib.hid hown12; have T12 := Lib.hid (T11.out.trans hbel12); clear hown12 hbel12 hk12))
    refine (from_is _ (aenc a ++ l) _ (bytes_of_owns P12.out (KB.out.app HV.out.bytes)) (by have := KL.out; have := HN.out; simp; omega)).mono ?_
    rintro e w13 ⟨gc, R, rfl, hgc, hc13, b13⟩
    have C13 := Lib.hid hc13
    have T13 := Lib.hid (step_ T12.out b13)
    have A13 := Lib.hid (A9.out.below T13.out)
    have W13 := Lib.hid (W9.out.below T13.out)
    have S13 := Lib.hid (BS.mk (step_ B9.out T13.out) A13.out : BS w a w13)
    have GC := Lib.hid (show w.heap.size < gc from Nat.lt_of_lt_of_le A9.out.lt (Nat.le_trans T12.out.size hgc))
    clear hc13 b13 hgc
    go_wp2_with fail
    have S1 := Lib.hid S13.out.drew
    have C1 := Lib.hid (C13.out.below (below_drew (Below.refl _ _)))
    have W1 := Lib.hid (W13.out.below (below_drew (Below.refl _ _)))
    have HK : Hid (∀ W, CurAt W gc R 0 (aenc a ++ l) → Calls Try.prog 22 #[.pointer (some ⟨gc, 0, none⟩)] W (ReadsA W gc R a 0 l)) := Lib.hid fun W hW => by
      have h := aread_is gc R (aenc a ++ l) W hW
      rw [rAtom_back HA.out HR.out l] at h
      exact h
    refine wp_region_noPanic ?_
    refine wp_region_held_drew (S := BS w a) (by kernel_rfl) S1.out (fun _ => ?_)
    refine wpAnyH_take (i := 0) (oi := { dst := some 108, op := Go.Op.move (Go.Operand.tmp 11), type := 45, pos := _, after := #[], guard := none }) (v := ?_) rfl (by kernel_rfl) (by kernel_rfl) (by kernel_rfl) (fun _ _ _ h => h) (Or.inl ⟨by rfl, ?_⟩) S1.out ?_
    rotate_left
    · intro W hW; (go_simp; try with_reducible rfl)
    try simp only [Act.put, List.setIfInBounds_toArray, List.set_cons_zero, List.set_cons_succ]
    refine wpAnyH_take (i := 2) (oi := { dst := some 110, op := Go.Op.load 32 (Go.Operand.tmp 3), type := 32, pos := _, after := #[], guard := none }) (v := .agg a.cells.toArray) rfl (by kernel_rfl) (by kernel_rfl) (by kernel_rfl) (fun _ _ _ h => h) (yieldsIf_load_mid (by rfl) 32 (.tmp 3) rfl w.heap.size 0 rfl a.cells _ (fun W hW => hW.one.range) Try.underlying32 rfl (size32 HA.out)) S1.out ?_
    try simp only [Act.put, List.setIfInBounds_toArray, List.set_cons_zero, List.set_cons_succ]
    refine wpAnyH_ready (rs := [1]) (by kernel_rfl) (by simp) ?_
    refine AllReadyH.cons (o := { dst := some 109, op := Go.Op.call { callee := Go.Callee.value (Go.Operand.func 19), args := #[Go.Operand.tmp 108], argTypes := #[45] }, type := 42, pos := _, after := #[{ on := 0, ground := Go.Ground.data }], guard := none }) rfl (fun K hK => ?_) AllReadyH.nil
    go_simp
    refine (out_is w7.heap.size (aenc a) _ W1.out (by have := KL.out; omega)).mono ?_
    rintro e w14 ⟨v14, rfl, hv14, b14⟩
    have V14 := Lib.hid hv14
    obtain ⟨ad14, cp14, rfl, _⟩ := hv14
    have S2 := Lib.hid (S1.out.below b14)
    have C2 := Lib.hid (C1.out.below b14)
    clear b14
    go_wp2_with fail
    refine hK.out _ _ ?_ (fun _ => ?_)
    · exact S2.out
    clear hK K
    try simp only [Act.put, List.setIfInBounds_toArray, List.set_cons_zero, List.set_cons_succ]
    refine wpAnyH_ready (rs := [3]) (by kernel_rfl) (by simp) ?_
    refine AllReadyH.cons (o := { dst := some 111, op := Go.Op.call { callee := Go.Callee.value (Go.Operand.func 21), args := #[Go.Operand.tmp 110], argTypes := #[32] }, type := 42, pos := _, after := #[{ on := 2, ground := Go.Ground.data }, { on := 1, ground := Go.Ground.chain }], guard := none }) rfl (fun K hK => ?_) AllReadyH.nil
    go_simp
    refine (abytes_is a _ HA.out).mono ?_
    rintro e w15 ⟨v15, rfl, hv15, b15⟩
    rw [EB.out] at hv15
    have V15 := Lib.hid hv15
    obtain ⟨ad15, cp15, rfl, _⟩ := hv15
    have U15 := Lib.hid (V14.out.below b15)
    have S3 := Lib.hid (S2.out.below b15)
    have C3 := Lib.hid (C2.out.below b15)
    clear b15
    go_wp2_with fail
    refine hK.out _ _ ?_ (fun _ => ?_)
    · exact S3.out
    clear hK K
    try simp only [Act.put, List.setIfInBounds_toArray, List.set_cons_zero, List.set_cons_succ]
    refine wpAnyH_ready (rs := [4]) (by kernel_rfl) (by simp) ?_
    refine AllReadyH.cons (o := { dst := some 112, op := Go.Op.call { callee := Go.Callee.value (Go.Operand.func 20), args := #[Go.Operand.tmp 109, Go.Operand.tmp 111], argTypes := #[42, 42] }, type := 4, pos := _, after := #[{ on := 1, ground := Go.Ground.data }, { on := 3, ground := Go.Ground.data }, { on := 3, ground := Go.Ground.chain }], guard := none }) rfl (fun K hK => ?_) AllReadyH.nil
    go_simp
    refine (same_any _ _ (aenc a) _ (by have := KL.out; omega) U15.out V15.out).mono ?_
    rintro e w16 ⟨rfl, b16⟩
    have S4 := Lib.hid (S3.out.below b16)
    have C4 := Lib.hid (C3.out.below b16)
    clear b16
    go_wp2_with fail
    refine hK.out _ _ ?_ (fun _ => ?_)
    · exact S4.out
    clear hK K
    try simp only [Act.put, List.setIfInBounds_toArray, List.set_cons_zero, List.set_cons_succ]
    refine wpAnyH_take (i := 5) (oi := { dst := some 113, op := Go.Op.move (Go.Operand.tmp 112), type := 4, pos := _, after := #[{ on := 4, ground := Go.Ground.data }, { on := 4, ground := Go.Ground.chain }], guard := none }) (v := ?_) rfl (by kernel_rfl) (by kernel_rfl) (by kernel_rfl) (fun _ _ _ h => h) (Or.inl ⟨by rfl, ?_⟩) S4.out ?_
    rotate_left
    · intro W hW; (go_simp; try with_reducible rfl)
    try simp only [Act.put, List.setIfInBounds_toArray, List.set_cons_zero, List.set_cons_succ]
    refine wpAnyH_take (i := 6) (oi := { dst := some 114, op := Go.Op.move (Go.Operand.tmp 12), type := 48, pos := _, after := #[{ on := 5, ground := Go.Ground.guard }], guard := some (5, true) }) (v := ?_) rfl (by kernel_rfl) (by kernel_rfl) (by kernel_rfl) (fun _ _ _ h => h) (Or.inl ⟨by rfl, ?_⟩) S4.out ?_
    rotate_left
    · intro W hW; (go_simp; try with_reducible rfl)
    try simp only [Act.put, List.setIfInBounds_toArray, List.set_cons_zero, List.set_cons_succ]
    refine wpAnyH_take (i := 8) (oi := { dst := some 116, op := Go.Op.load 32 (Go.Operand.tmp 3), type := 32, pos := _, after := #[{ on := 5, ground := Go.Ground.guard }], guard := some (5, true) }) (v := .agg a.cells.toArray) rfl (by kernel_rfl) (by kernel_rfl) (by kernel_rfl) (fun _ _ _ h => h) (yieldsIf_load_mid (by rfl) 32 (.tmp 3) rfl w.heap.size 0 rfl a.cells _ (fun W hW => hW.one.range) Try.underlying32 rfl (size32 HA.out)) S4.out ?_
    try simp only [Act.put, List.setIfInBounds_toArray, List.set_cons_zero, List.set_cons_succ]
    refine wpAnyH_ready (rs := [7]) (by kernel_rfl) (by simp) ?_
    refine AllReadyH.cons (o := { dst := some 115, op := Go.Op.call { callee := Go.Callee.value (Go.Operand.func 22), args := #[Go.Operand.tmp 114], argTypes := #[48] }, type := 32, pos := _, after := #[{ on := 6, ground := Go.Ground.data }, { on := 5, ground := Go.Ground.chain }, { on := 5, ground := Go.Ground.guard }], guard := some (5, true) }) rfl (fun K hK => ?_) AllReadyH.nil
    go_simp
    refine (HK.out _ C4.out).mono ?_
    rintro e w17 ⟨rfl, hc17, ho17⟩
    have S5 := Lib.hid (S4.out.only ho17 GC.out)
    have C5 := Lib.hid hc17
    clear hc17 ho17
    go_wp2_with fail
    refine hK.out _ _ ?_ (fun _ => ?_)
    · exact S5.out
    clear hK K
    try simp only [Act.put, List.setIfInBounds_toArray, List.set_cons_zero, List.set_cons_succ]
    refine wpAnyH_take (i := 9) (oi := { dst := some 117, op := Go.Op.binOp Go.BinOp.eql 32 (Go.Operand.tmp 115) (Go.Operand.tmp 116) 32, type := 4, pos := _, after := #[{ on := 7, ground := Go.Ground.data }, { on := 8, ground := Go.Ground.data }, { on := 5, ground := Go.Ground.guard }], guard := some (5, true) }) (v := .bool true) rfl (by kernel_rfl) (by kernel_rfl) (by kernel_rfl) (fun _ _ _ h => h) (Or.inl ⟨by rfl, fun W hW => exec_same_am rfl rfl rfl HA.out⟩) S5.out ?_
    try simp only [Act.put, List.setIfInBounds_toArray, List.set_cons_zero, List.set_cons_succ]
    refine wpAnyH_take (i := 10) (oi := { dst := some 118, op := Go.Op.pick (Go.Operand.tmp 113) (Go.Operand.tmp 117) (Go.Operand.const (Go.Value.bool false)), type := 4, pos := _, after := #[{ on := 5, ground := Go.Ground.data }, { on := 9, ground := Go.Ground.data }], guard := none }) (v := ?_) rfl (by kernel_rfl) (by kernel_rfl) (by kernel_rfl) (fun _ _ _ h => h) (Or.inl ⟨by rfl, ?_⟩) S5.out ?_
    rotate_left
    · intro W hW; (go_simp; try with_reducible rfl)
    try simp only [Act.put, List.setIfInBounds_toArray, List.set_cons_zero, List.set_cons_succ]
    refine wpAnyH_take (i := 11) (oi := { dst := some 119, op := Go.Op.move (Go.Operand.tmp 118), type := 4, pos := _, after := #[{ on := 10, ground := Go.Ground.data }, { on := 7, ground := Go.Ground.chain }], guard := none }) (v := ?_) rfl (by kernel_rfl) (by kernel_rfl) (by kernel_rfl) (fun _ _ _ h => h) (Or.inl ⟨by rfl, ?_⟩) S5.out ?_
    rotate_left
    · intro W hW; (go_simp; try with_reducible rfl)
    try simp only [Act.put, List.setIfInBounds_toArray, List.set_cons_zero, List.set_cons_succ]
    refine wpAnyH_take (i := 12) (oi := { dst := some 120, op := Go.Op.move (Go.Operand.tmp 12), type := 48, pos := _, after := #[{ on := 11, ground := Go.Ground.guard }], guard := some (11, true) }) (v := ?_) rfl (by kernel_rfl) (by kernel_rfl) (by kernel_rfl) (fun _ _ _ h => h) (Or.inl ⟨by rfl, ?_⟩) S5.out ?_
    rotate_left
    · intro W hW; (go_simp; try with_reducible rfl)
    try simp only [Act.put, List.setIfInBounds_toArray, List.set_cons_zero, List.set_cons_succ]
    refine wpAnyH_ready (rs := [13]) (by kernel_rfl) (by simp) ?_
    refine AllReadyH.cons (o := { dst := some 121, op := Go.Op.call { callee := Go.Callee.value (Go.Operand.func 23), args := #[Go.Operand.tmp 120], argTypes := #[48] }, type := 54, pos := _, after := #[{ on := 12, ground := Go.Ground.data }, { on := 11, ground := Go.Ground.chain }, { on := 11, ground := Go.Ground.guard }], guard := some (11, true) }) rfl (fun K hK => ?_) AllReadyH.nil
    go_simp
    refine (curErrK_is gc R 0 l _ C5.out).mono ?_
    rintro e w18 ⟨rfl, rfl⟩
    go_wp2_with fail
    refine hK.out _ _ ?_ (fun _ => ?_)
    · exact S5.out
    clear hK K
    try simp only [Act.put, List.setIfInBounds_toArray, List.set_cons_zero, List.set_cons_succ]
    refine wpAnyH_take (i := 14) (oi := { dst := some 122, op := Go.Op.binOp Go.BinOp.eql 54 (Go.Operand.tmp 121) (Go.Operand.const (Go.Value.int Go.IntKind.i64 0)) 54, type := 4, pos := _, after := #[{ on := 13, ground := Go.Ground.data }, { on := 11, ground := Go.Ground.guard }], guard := some (11, true) }) (v := ?_) rfl (by kernel_rfl) (by kernel_rfl) (by kernel_rfl) (fun _ _ _ h => h) (Or.inl ⟨by rfl, ?_⟩) S5.out ?_
    rotate_left
    · intro W hW; (go_simp; try with_reducible rfl)
    try simp only [Act.put, List.setIfInBounds_toArray, List.set_cons_zero, List.set_cons_succ]
    refine wpAnyH_take (i := 15) (oi := { dst := some 123, op := Go.Op.pick (Go.Operand.tmp 119) (Go.Operand.tmp 122) (Go.Operand.const (Go.Value.bool false)), type := 4, pos := _, after := #[{ on := 11, ground := Go.Ground.data }, { on := 14, ground := Go.Ground.data }], guard := none }) (v := ?_) rfl (by kernel_rfl) (by kernel_rfl) (by kernel_rfl) (fun _ _ _ h => h) (Or.inl ⟨by rfl, ?_⟩) S5.out ?_
    rotate_left
    · intro W hW; (go_simp; try with_reducible rfl)
    try simp only [Act.put, List.setIfInBounds_toArray, List.set_cons_zero, List.set_cons_succ]
    refine wpAnyH_take (i := 16) (oi := { dst := some 124, op := Go.Op.move (Go.Operand.tmp 123), type := 4, pos := _, after := #[{ on := 15, ground := Go.Ground.data }, { on := 13, ground := Go.Ground.chain }], guard := none }) (v := ?_) rfl (by kernel_rfl) (by kernel_rfl) (by kernel_rfl) (fun _ _ _ h => h) (Or.inl ⟨by rfl, ?_⟩) S5.out ?_
    rotate_left
    · intro W hW; (go_simp; try with_reducible rfl)
    try simp only [Act.put, List.setIfInBounds_toArray, List.set_cons_zero, List.set_cons_succ]
    refine wpAnyH_take (i := 17) (oi := { dst := some 125, op := Go.Op.move (Go.Operand.tmp 12), type := 48, pos := _, after := #[{ on := 16, ground := Go.Ground.guard }], guard := some (16, true) }) (v := ?_) rfl (by kernel_rfl) (by kernel_rfl) (by kernel_rfl) (fun _ _ _ h => h) (Or.inl ⟨by rfl, ?_⟩) S5.out ?_
    rotate_left
    · intro W hW; (go_simp; try with_reducible rfl)
    try simp only [Act.put, List.setIfInBounds_toArray, List.set_cons_zero, List.set_cons_succ]
    refine wpAnyH_take (i := 19) (oi := { dst := some 127, op := Go.Op.move (Go.Operand.tmp 1), type := 42, pos := _, after := #[{ on := 16, ground := Go.Ground.guard }], guard := some (16, true) }) (v := ?_) rfl (by kernel_rfl) (by kernel_rfl) (by kernel_rfl) (fun _ _ _ h => h) (Or.inl ⟨by rfl, ?_⟩) S5.out ?_
    rotate_left
    · intro W hW; (go_simp; try with_reducible rfl)
    try simp only [Act.put, List.setIfInBounds_toArray, List.set_cons_zero, List.set_cons_succ]
    refine wpAnyH_take (i := 20) (oi := { dst := some 128, op := Go.Op.call { callee := Go.Callee.builtin Go.Builtin.len, args := #[Go.Operand.tmp 127], argTypes := #[42] }, type := 3, pos := _, after := #[{ on := 19, ground := Go.Ground.data }, { on := 16, ground := Go.Ground.guard }], guard := some (16, true) }) (v := ?_) rfl (by kernel_rfl) (by kernel_rfl) (by kernel_rfl) (fun _ _ _ h => h) (Or.inl ⟨by rfl, ?_⟩) S5.out ?_
    rotate_left
    · intro W hW; (go_simp; try with_reducible rfl)
    try simp only [Act.put, List.setIfInBounds_toArray, List.set_cons_zero, List.set_cons_succ]
    refine wpAnyH_ready (rs := [18]) (by kernel_rfl) (by simp) ?_
    refine AllReadyH.cons (o := { dst := some 126, op := Go.Op.call { callee := Go.Callee.value (Go.Operand.func 24), args := #[Go.Operand.tmp 125], argTypes := #[48] }, type := 3, pos := _, after := #[{ on := 17, ground := Go.Ground.data }, { on := 16, ground := Go.Ground.chain }, { on := 16, ground := Go.Ground.guard }], guard := some (16, true) }) rfl (fun K hK => ?_) AllReadyH.nil
    go_simp
    refine (curLeftK_is gc R 0 l _ C5.out).mono ?_
    rintro e w19 ⟨rfl, rfl⟩
    go_wp2_with fail
    refine hK.out _ _ ?_ (fun _ => ?_)
    · exact S5.out
    clear hK K
    try simp only [Act.put, List.setIfInBounds_toArray, List.set_cons_zero, List.set_cons_succ]
    refine wpAnyH_take (i := 21) (oi := { dst := some 129, op := Go.Op.binOp Go.BinOp.eql 3 (Go.Operand.tmp 126) (Go.Operand.tmp 128) 3, type := 4, pos := _, after := #[{ on := 18, ground := Go.Ground.data }, { on := 20, ground := Go.Ground.data }, { on := 16, ground := Go.Ground.guard }], guard := some (16, true) }) (v := ?_) rfl (by kernel_rfl) (by kernel_rfl) (by kernel_rfl) (fun _ _ _ h => h) (Or.inl ⟨by rfl, ?_⟩) S5.out ?_
    rotate_left
    · intro W hW; (go_simp; try with_reducible rfl)
    try simp only [Act.put, List.setIfInBounds_toArray, List.set_cons_zero, List.set_cons_succ]
    refine wpAnyH_take (i := 22) (oi := { dst := some 130, op := Go.Op.pick (Go.Operand.tmp 124) (Go.Operand.tmp 129) (Go.Operand.const (Go.Value.bool false)), type := 4, pos := _, after := #[{ on := 16, ground := Go.Ground.data }, { on := 21, ground := Go.Ground.data }], guard := none }) (v := ?_) rfl (by kernel_rfl) (by kernel_rfl) (by kernel_rfl) (fun _ _ _ h => h) (Or.inl ⟨by rfl, ?_⟩) S5.out ?_
    rotate_left
    · intro W hW; (go_simp; try with_reducible rfl)
    try simp only [Act.put, List.setIfInBounds_toArray, List.set_cons_zero, List.set_cons_succ]
    refine wpAnyH_take (i := 23) (oi := { dst := some 131, op := Go.Op.move (Go.Operand.tmp 130), type := 4, pos := _, after := #[{ on := 22, ground := Go.Ground.data }, { on := 18, ground := Go.Ground.chain }], guard := none }) (v := ?_) rfl (by kernel_rfl) (by kernel_rfl) (by kernel_rfl) (fun _ _ _ h => h) (Or.inl ⟨by rfl, ?_⟩) S5.out ?_
    rotate_left
    · intro W hW; (go_simp; try with_reducible rfl)
    try simp only [Act.put, List.setIfInBounds_toArray, List.set_cons_zero, List.set_cons_succ]
    refine wpAnyH_ready (rs := [24]) (by kernel_rfl) (by simp) ?_
    refine AllReadyH.cons (o := { dst := some 132, op := Go.Op.call { callee := Go.Callee.value (Go.Operand.func 12), args := #[], argTypes := #[] }, type := 4, pos := _, after := #[{ on := 23, ground := Go.Ground.chain }, { on := 23, ground := Go.Ground.guard }], guard := some (23, true) }) rfl (fun K hK => ?_) AllReadyH.nil
    go_simp
    refine (alive_is _).mono ?_
    rintro e w20 ⟨rfl, b20⟩
    have S6 := Lib.hid (S5.out.below b20)
    clear b20
    go_wp2_with fail
    refine hK.out _ _ ?_ (fun _ => ?_)
    · exact S6.out
    clear hK K
    try simp only [Act.put, List.setIfInBounds_toArray, List.set_cons_zero, List.set_cons_succ]
    refine wpAnyH_take (i := 25) (oi := { dst := some 133, op := Go.Op.pick (Go.Operand.tmp 131) (Go.Operand.tmp 132) (Go.Operand.const (Go.Value.bool false)), type := 4, pos := _, after := #[{ on := 23, ground := Go.Ground.data }, { on := 24, ground := Go.Ground.data }], guard := none }) (v := ?_) rfl (by kernel_rfl) (by kernel_rfl) (by kernel_rfl) (fun _ _ _ h => h) (Or.inl ⟨by rfl, ?_⟩) S6.out ?_
    rotate_left
    · intro W hW; (go_simp; try with_reducible rfl)
    try simp only [Act.put, List.setIfInBounds_toArray, List.set_cons_zero, List.set_cons_succ]
    refine wpAnyH_take (i := 26) (oi := { dst := some 6, op := Go.Op.assign (Go.Operand.tmp 133), type := 4, pos := _, after := #[{ on := 25, ground := Go.Ground.data }, { on := 24, ground := Go.Ground.chain }, { on := 0, ground := Go.Ground.phase }, { on := 1, ground := Go.Ground.phase }, { on := 2, ground := Go.Ground.phase }, { on := 3, ground := Go.Ground.phase }, { on := 4, ground := Go.Ground.phase }, { on := 5, ground := Go.Ground.phase }, { on := 6, ground := Go.Ground.phase }, { on := 7, ground := Go.Ground.phase }, { on := 8, ground := Go.Ground.phase }, { on := 9, ground := Go.Ground.phase }, { on := 10, ground := Go.Ground.phase }, { on := 11, ground := Go.Ground.phase }, { on := 12, ground := Go.Ground.phase }, { on := 13, ground := Go.Ground.phase }, { on := 14, ground := Go.Ground.phase }, { on := 15, ground := Go.Ground.phase }, { on := 16, ground := Go.Ground.phase }, { on := 17, ground := Go.Ground.phase }, { on := 18, ground := Go.Ground.phase }, { on := 19, ground := Go.Ground.phase }, { on := 20, ground := Go.Ground.phase }, { on := 21, ground := Go.Ground.phase }, { on := 22, ground := Go.Ground.phase }, { on := 23, ground := Go.Ground.phase }, { on := 24, ground := Go.Ground.phase }, { on := 25, ground := Go.Ground.phase }], guard := none }) (v := ?_) rfl (by kernel_rfl) (by kernel_rfl) (by kernel_rfl) (fun _ _ _ h => h) (Or.inl ⟨by rfl, ?_⟩) S6.out ?_
    rotate_left
    · intro W hW; (go_simp; try with_reducible rfl)
    try simp only [Act.put, List.setIfInBounds_toArray, List.set_cons_zero, List.set_cons_succ]
    refine wpAnyH_done (by kernel_rfl) ?_ _
    refine NoPanic.normal ?_
    go_wp2_with fail
    go_ret
    exact ⟨rfl, S6.out.bel⟩
theorem atomBack_any (a : Am) (v : Value) (l : List Int) (x y z : Vl) (w : World) (ha : a.Ok) (hl : BytesAt w v l) (hx : x.Ok) (hy : y.Ok) (hz : z.Ok) : Calls Try.prog 5 #[.agg a.cells.toArray, v, .agg (x.cells ++ (y.cells ++ z.cells)).toArray] w fun e w' => e = .returned (.bool true) ∧ Below w.heap.size w w' := by
  have hl' := hl
  obtain ⟨ad, cap, rfl, _⟩ := hl
  by_cases h60 : 60 < l.length
  · exact ab_long a x y z ad l.length cap w h60
  · exact ab_main a x y z ad l cap w ha hx hy hz hl' (by omega)
end Go.Proofs.Yteggjihhjdeieaa
