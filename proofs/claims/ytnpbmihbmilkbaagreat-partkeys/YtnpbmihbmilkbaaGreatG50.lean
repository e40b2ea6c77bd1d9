/- The walk of PartKeys. Written by wip/tools/lawk_r20.py. -/
import Derived.Test.YtnpbmihbmilkbaaGreatG49
namespace Go.Proofs.YtnpbmihbmilkbaaGreat
open Go.RowKit Go.Shelf Go.Maps
attribute [local go_sem] Oper.semAt_some
theorem Grps.atB {w : World} {B b n : Nat} {ky : Am → Int} {s : List Am} (h : Grps w B b n ky s) {k : Int} (hk : 0 ≤ k ∧ k < 18446744073709551616) :
    ∃ A m c, (∀ V, Below w.heap.size w V → (Instr.lookup 31 (.map (some b)) (.int .u64 k) false).run Tryz.prog V = .ok (.slice A m c) V) ∧ RowV w A m c (onK ky k s) := by
  obtain ⟨f, h1, h2⟩ := h.ex
  obtain ⟨v, r, g⟩ := h.at_ (k := k) hk
  rw [run_lookupG h1 hk] at r
  injection r with r1 r2
  subst r1
  obtain ⟨A, m, c, e, hr⟩ := g
  refine ⟨A, m, c, fun V hV => ?_, hr⟩
  have := run_lookupG (h1.below hV) hk
  rw [e] at this
  exact this
theorem exec_lookK {o : Oper} {a : Act} {w : World} (x y : Operand) (ho : o.op = .lookup 31 x y false) (b : Nat) (k : Int) (v : Value) (hx : a.eval x = .map (some b)) (hy : a.eval y = .int .u64 k) (hr : (Instr.lookup 31 (.map (some b)) (.int .u64 k) false).run Tryz.prog w = .ok v w) : (execOp a.eval o).run Tryz.prog w = .ok (.value v) w := by
  unfold execOp
  simp only [ho, hx, hy, Sem.run_bind, hr, Result.andThen_ok, Sem.run_pure]
theorem wpList_lenM {ops : Array Oper} {rest : List Oper} {op : Oper} {a : Act} {w : World} {Q : Exit → Act → World → Prop} (hgd : op.guard = none) (x : Operand) (ho : op.op = .call { callee := .builtin .len, args := #[x], argTypes := #[31] })
    (B b n : Nat) (ky : Am → Int) (s : List Am) (hx : a.eval x = .map (some b)) (hm : Grps w B b n ky s)
    (h : wpList Tryz.prog ops Q rest (a.put op.dst (.int .i64 ((keysS ky s).length : Nat))) w) : wpList Tryz.prog ops Q (op :: rest) a w := by
  refine wpList_plain hgd fun K hK => ?_
  obtain ⟨f, h1, h2⟩ := hm.ex
  have hr := run_lenG h1 op.type
  rw [hm.msize] at hr
  have hr' : (Builtin.len_ #[31] op.type #[.map (some b)]).run Tryz.prog w = .ok (.int .i64 ((keysS ky s).length : Nat)) w := hr
  unfold Oper.wp execOp
  simp only [ho, resolve, invoke, builtin, Sem.run_bind, Sem.run_pure, Result.andThen_ok, List.map_toArray, List.map_cons, List.map_nil, hx, hr']
  exact hK _ _ h
theorem cellB {w W : World} {A : Option Addr} {n G p i : Nat} {u : Value} (h : Below w.heap.size w W) (_hE : NElem A n G p i) (hc : w.cell? ⟨G, p, none⟩ = some u) (hG : G < w.heap.size) : W.cell? ⟨G, p, none⟩ = some u := by
  rw [World.cell?_of_block (h.block G hG)]
  exact hc
set_option maxRecDepth 100000 in
set_option maxHeartbeats 16000000 in
theorem partKeys_is (seed : Int) (hs0 : 0 ≤ seed ∧ seed < 18446744073709551616) (A : Option Addr) (n cap : Nat) (a : List Am) (A2 : Option Addr) (n2 cap2 : Nat) (m : List Int) (w : World) (h : RowV w A n cap a) (h2 : NumsAt w (.slice A2 n2 cap2) m) :
    Calls Tryz.prog 3 #[.int .u64 seed, .slice A n cap, .slice A2 n2 cap2] w fun e w' => e = .returned (.bool true) ∧ Below w.heap.size w w' := by
  have H := Lib.hid h
  have H2 := Lib.hid h2
  have hU : Hid (Mx.U64 seed) := Lib.hid hs0
  clear h h2
  by_cases hb1 : 40 < n
  · have hd1 : decide ((40 : Int) < (n : Int)) = true := decide_eq_true (by omega)
    go_enter Tryz.func3, Tryz.ntmps3
    go_wp2_with fail
    refine (alive_is _).mono ?_
    rintro e w1 ⟨rfl, b1⟩
    go_wp2_with fail
    go_ret
    exact ⟨rfl, b1⟩
  have hd1 : decide ((40 : Int) < (n : Int)) = false := decide_eq_false (by omega)
  by_cases hb2 : 60 < n2
  · have hd2 : decide ((60 : Int) < (n2 : Int)) = true := decide_eq_true (by omega)
    go_enter Tryz.func3, Tryz.ntmps3
    go_wp2_with fail
    refine (alive_is _).mono ?_
    rintro e w1 ⟨rfl, b1⟩
    go_wp2_with fail
    go_ret
    exact ⟨rfl, b1⟩
  have hd2 : decide ((60 : Int) < (n2 : Int)) = false := decide_eq_false (by omega)
  obtain ⟨s, hs⟩ : ∃ s, norm a = s := ⟨_, rfl⟩
  obtain ⟨L, hL⟩ : ∃ L, keysS (hsum seed) (norm a) = L := ⟨_, rfl⟩
  obtain ⟨c, hc⟩ : ∃ c, clashS (hsum seed) (norm a) = c := ⟨_, rfl⟩
  obtain ⟨P, hP⟩ : ∃ P, pickS (hsum seed) m (norm a) = P := ⟨_, rfl⟩
  have LL := Lib.hid (show L.length ≤ 1000 by rw [← hL]; have := keysS_len (hsum seed) (norm a); have := norm_len a; have := H.out.len; omega)
  have NE := Lib.hid hs
  have HL := Lib.hid hL
  have HC := Lib.hid hc
  have HP := Lib.hid hP
  have bC : (c != c) = false := by cases c <;> rfl
  have SL := Lib.hid (show s.length ≤ 600 by rw [← hs]; have := norm_len a; have := H.out.len; omega)
  clear hs hL hc hP hs0
  go_enter Tryz.func3, Tryz.ntmps3
  go_wp2_with fail
  refine (refKeys_is seed hU A n cap a L _ H.out (by omega) HL).mono ?_
  rintro e w1 h1
  obtain ⟨A1, c1, rfl, n1, b1⟩ := h1.shape
  have N1 := Lib.hid n1
  have B1 := Lib.hid b1
  clear h1 n1 b1
  go_wp2_with fail
  refine (keys_is seed hU A n cap a L _ (H.out.below B1.out) (by omega) HL).mono ?_
  rintro e w2 h2
  obtain ⟨A3, c3, rfl, n3, b3⟩ := h2.shape
  have N3 := Lib.hid n3
  have N12 := Lib.hid (N1.out.below b3)
  have B2 := Lib.hid (step_ B1.out b3)
  have C2 := Lib.hid b3
  clear h2 n3 b3
  go_wp2_with fail
  refine (numsame_is _ _ L L true _ N3.out N12.out (by have := LL.out; omega) (Lib.hid (by simp))).mono ?_
  rintro e w3 ⟨rfl, b3⟩
  have B3 := Lib.hid (step_ B2.out b3)
  have C3 := Lib.hid (step_ C2.out b3)
  clear b3
  go_wp2_with fail
  refine (clash_is seed hU A n cap a c _ (H.out.below B3.out) (by omega) HC).mono ?_
  rintro e w4 ⟨rfl, b4⟩
  have B4 := Lib.hid (step_ B3.out b4)
  have C4 := Lib.hid (step_ C3.out b4)
  clear b4
  go_wp2_with fail
  refine (refClash_is seed hU A n cap a c _ (H.out.below B4.out) (by omega) HC).mono ?_
  rintro e w5 ⟨rfl, b5⟩
  have B5 := Lib.hid (step_ B4.out b5)
  have C5 := Lib.hid (step_ C4.out b5)
  clear b5
  go_wp2_with fail
  refine (pick_is seed hU A n cap a A2 n2 cap2 m P _ (H.out.below B5.out) (by omega) (H2.out.below B5.out) (by omega) HP).mono ?_
  rintro e w6 ⟨⟨A6, n6, c6, rfl, r6⟩, b6⟩
  have R6 := Lib.hid r6
  have B6 := Lib.hid (step_ B5.out b6)
  have C6 := Lib.hid (step_ C5.out b6)
  have L6 := Lib.hid (show n6 ≤ 600 by have := r6.len; rw [← HP.out] at this; have := pickS_len (hsum seed) m (norm a); have := norm_len a; have := H.out.len; omega)
  clear r6 b6
  go_wp2_with fail
  refine (refPick_is seed hU A n cap a A2 n2 cap2 m P _ (H.out.below B6.out) (by omega) (H2.out.below B6.out) (by omega) HP).mono ?_
  rintro e w7 ⟨⟨A7, n7, c7, rfl, r7⟩, b7⟩
  have R7 := Lib.hid r7
  have R67 := Lib.hid (R6.out.below b7)
  have B7 := Lib.hid (step_ B6.out b7)
  have C7 := Lib.hid (step_ C6.out b7)
  clear r7 b7
  go_wp2_with fail
  refine (rows_is A6 A7 n6 n7 c6 c7 P P true _ R67.out R7.out (by have := L6.out; omega) (Lib.hid (by simp))).mono ?_
  rintro e w8 ⟨rfl, b8⟩
  have B8 := Lib.hid (step_ B7.out b8)
  have C8 := Lib.hid (step_ C7.out b8)
  clear b8
  go_wp2_with fail
  refine (pindex_is seed hU A n cap a _ (H.out.below B8.out) (by omega)).mono ?_
  rintro e w9 ⟨⟨b, rfl, hg⟩, b9⟩
  rw [NE.out] at hg
  have GG := Lib.hid hg
  have B9 := Lib.hid (step_ B8.out b9)
  have C9 := Lib.hid (step_ C8.out b9)
  have LE := Lib.hid (show (keysS (hsum seed) s).length = L.length by rw [← HL.out, NE.out])
  have bL : (((keysS (hsum seed) s).length : Int) != (L.length : Int)) = false := by rw [LE.out]; simp
  have N19 := Lib.hid (N1.out.below C9.out)
  have H9 := Lib.hid (H.out.below B9.out)
  clear hg b9
  go_wp2_with (refine wpList_lenM rfl _ rfl w8.heap.size b _ (hsum seed) s rfl GG.out ?_)
  go_loopw [9] (fun i wr => ∃ j : Nat, j ≤ L.length ∧ i = .int .i64 j ∧ Below w9.heap.size w9 wr) (fun i _ => L.length - (intOf i).toNat)
  case atStart => exact ⟨0, Nat.zero_le _, rfl, Below.refl _ _⟩
  case round =>
    obtain ⟨j, hj, rfl, hb⟩ := hrel
    have BB := Lib.hid hb
    have hLL := LL.out
    clear hb
    by_cases hlt : j < L.length
    · obtain ⟨G, p, hE, hEc, hG⟩ := (N19.out.below BB.out).elem j hlt
      have E := Lib.hid hE
      have EC := Lib.hid hEc
      have EG := Lib.hid hG
      have NY := Lib.hid (N19.out.nums.at_ j)
      obtain ⟨y, hy⟩ : ∃ y, L.getD j 0 = y := ⟨_, rfl⟩
      rw [hy] at EC NY
      clear hE hEc hy hG
      obtain ⟨A4, n4, c4, lk, r4⟩ := (GG.out.below BB.out).atB NY.out
      have LK := Lib.hid lk
      have R4 := Lib.hid r4
      have L4 := Lib.hid (show n4 ≤ 600 by have := r4.len; have := onK_len (hsum seed) y s; have := SL.out; omega)
      have HW := Lib.hid (H9.out.below BB.out)
      have PK := Lib.hid (show pickS (hsum seed) [y] (norm a) = onK (hsum seed) y s by rw [NE.out, pick_one]; rfl)
      have S0 := Lib.hid (show Below wr.heap.size wr wr.drew from below_drew (Below.refl _ _))
      clear lk r4
      go_wp2_with fail
      refine wp_region_noPanic ?_
      refine wp_region_held_drew (S := fun V => Below wr.heap.size wr V) (by kernel_rfl) S0.out (fun _ => ?_)
      refine wpAnyH_take (i := 0) (oi := { dst := some 63, op := Go.Op.move (Go.Operand.tmp 8), type := 31, pos := _, after := #[], guard := none }) (v := ?_) rfl (by kernel_rfl) (by kernel_rfl) (by kernel_rfl) (fun _ _ _ h => h) (Or.inl ⟨by rfl, ?_⟩) S0.out ?_
      rotate_left
      · intro W9 hW; (go_simp; try with_reducible rfl)
      try simp only [Act.put, List.setIfInBounds_toArray, List.set_cons_zero, List.set_cons_succ]
      refine wpAnyH_take (i := 1) (oi := { dst := some 64, op := Go.Op.move (Go.Operand.tmp 7), type := 24, pos := _, after := #[], guard := none }) (v := ?_) rfl (by kernel_rfl) (by kernel_rfl) (by kernel_rfl) (fun _ _ _ h => h) (Or.inl ⟨by rfl, ?_⟩) S0.out ?_
      rotate_left
      · intro W9 hW; (go_simp; try with_reducible rfl)
      try simp only [Act.put, List.setIfInBounds_toArray, List.set_cons_zero, List.set_cons_succ]
      refine wpAnyH_take (i := 2) (oi := { dst := some 65, op := Go.Op.move (Go.Operand.tmp 9), type := 3, pos := _, after := #[], guard := none }) (v := ?_) rfl (by kernel_rfl) (by kernel_rfl) (by kernel_rfl) (fun _ _ _ h => h) (Or.inl ⟨by rfl, ?_⟩) S0.out ?_
      rotate_left
      · intro W9 hW; (go_simp; try with_reducible rfl)
      try simp only [Act.put, List.setIfInBounds_toArray, List.set_cons_zero, List.set_cons_succ]
      refine wpAnyH_take (i := 3) (oi := { dst := some 66, op := Go.Op.indexAddr 24 (Go.Operand.tmp 64) (Go.Operand.tmp 65), type := 0, pos := _, after := #[{ on := 1, ground := Go.Ground.data }, { on := 2, ground := Go.Ground.data }], guard := none }) (v := .pointer (some ⟨G, p, none⟩)) rfl (by kernel_rfl) (by kernel_rfl) (by kernel_rfl) (fun _ _ _ h => h) (Or.inl ⟨by rfl, fun W9 hW => exec_indexN Tryz.underlying24 _ _ rfl A1 L.length c1 G p j _ rfl rfl (by first | rfl | omega) E.out⟩) S0.out ?_
      try simp only [Act.put, List.setIfInBounds_toArray, List.set_cons_zero, List.set_cons_succ]
      refine wpAnyH_take (i := 4) (oi := { dst := some 67, op := Go.Op.load 22 (Go.Operand.tmp 66), type := 22, pos := _, after := #[{ on := 3, ground := Go.Ground.data }], guard := none }) (v := .int .u64 y) rfl (by kernel_rfl) (by kernel_rfl) (by kernel_rfl) (fun _ _ _ h => h) (Or.inl ⟨by rfl, fun W9 hW => exec_load_num _ rfl G p y rfl (cellB hW E.out EC.out EG.out)⟩) S0.out ?_
      try simp only [Act.put, List.setIfInBounds_toArray, List.set_cons_zero, List.set_cons_succ]
      refine wpAnyH_take (i := 5) (oi := { dst := some 68, op := Go.Op.lookup 31 (Go.Operand.tmp 63) (Go.Operand.tmp 67) false, type := 23, pos := _, after := #[{ on := 0, ground := Go.Ground.data }, { on := 4, ground := Go.Ground.data }], guard := none }) (v := .slice A4 n4 c4) rfl (by kernel_rfl) (by kernel_rfl) (by kernel_rfl) (fun _ _ _ h => h) (Or.inl ⟨by rfl, fun W9 hW => exec_lookK _ _ rfl b y _ rfl rfl (LK.out W9 hW)⟩) S0.out ?_
      try simp only [Act.put, List.setIfInBounds_toArray, List.set_cons_zero, List.set_cons_succ]
      refine wpAnyH_take (i := 6) (oi := { dst := some 69, op := Go.Op.move (Go.Operand.tmp 0), type := 22, pos := _, after := #[], guard := none }) (v := ?_) rfl (by kernel_rfl) (by kernel_rfl) (by kernel_rfl) (fun _ _ _ h => h) (Or.inl ⟨by rfl, ?_⟩) S0.out ?_
      rotate_left
      · intro W9 hW; (go_simp; try with_reducible rfl)
      try simp only [Act.put, List.setIfInBounds_toArray, List.set_cons_zero, List.set_cons_succ]
      refine wpAnyH_take (i := 7) (oi := { dst := some 70, op := Go.Op.move (Go.Operand.tmp 1), type := 23, pos := _, after := #[], guard := none }) (v := ?_) rfl (by kernel_rfl) (by kernel_rfl) (by kernel_rfl) (fun _ _ _ h => h) (Or.inl ⟨by rfl, ?_⟩) S0.out ?_
      rotate_left
      · intro W9 hW; (go_simp; try with_reducible rfl)
      try simp only [Act.put, List.setIfInBounds_toArray, List.set_cons_zero, List.set_cons_succ]
      refine wpAnyH_take (i := 8) (oi := { dst := some 71, op := Go.Op.move (Go.Operand.tmp 7), type := 24, pos := _, after := #[], guard := none }) (v := ?_) rfl (by kernel_rfl) (by kernel_rfl) (by kernel_rfl) (fun _ _ _ h => h) (Or.inl ⟨by rfl, ?_⟩) S0.out ?_
      rotate_left
      · intro W9 hW; (go_simp; try with_reducible rfl)
      try simp only [Act.put, List.setIfInBounds_toArray, List.set_cons_zero, List.set_cons_succ]
      refine wpAnyH_take (i := 9) (oi := { dst := some 72, op := Go.Op.move (Go.Operand.tmp 9), type := 3, pos := _, after := #[], guard := none }) (v := ?_) rfl (by kernel_rfl) (by kernel_rfl) (by kernel_rfl) (fun _ _ _ h => h) (Or.inl ⟨by rfl, ?_⟩) S0.out ?_
      rotate_left
      · intro W9 hW; (go_simp; try with_reducible rfl)
      try simp only [Act.put, List.setIfInBounds_toArray, List.set_cons_zero, List.set_cons_succ]
      refine wpAnyH_take (i := 10) (oi := { dst := some 73, op := Go.Op.indexAddr 24 (Go.Operand.tmp 71) (Go.Operand.tmp 72), type := 0, pos := _, after := #[{ on := 8, ground := Go.Ground.data }, { on := 9, ground := Go.Ground.data }], guard := none }) (v := .pointer (some ⟨G, p, none⟩)) rfl (by kernel_rfl) (by kernel_rfl) (by kernel_rfl) (fun _ _ _ h => h) (Or.inl ⟨by rfl, fun W9 hW => exec_indexN Tryz.underlying24 _ _ rfl A1 L.length c1 G p j _ rfl rfl (by first | rfl | omega) E.out⟩) S0.out ?_
      try simp only [Act.put, List.setIfInBounds_toArray, List.set_cons_zero, List.set_cons_succ]
      refine wpAnyH_take (i := 11) (oi := { dst := some 74, op := Go.Op.load 22 (Go.Operand.tmp 73), type := 22, pos := _, after := #[{ on := 10, ground := Go.Ground.data }], guard := none }) (v := .int .u64 y) rfl (by kernel_rfl) (by kernel_rfl) (by kernel_rfl) (fun _ _ _ h => h) (Or.inl ⟨by rfl, fun W9 hW => exec_load_num _ rfl G p y rfl (cellB hW E.out EC.out EG.out)⟩) S0.out ?_
      try simp only [Act.put, List.setIfInBounds_toArray, List.set_cons_zero, List.set_cons_succ]
      refine wpAnyH_ready (rs := [12]) (by kernel_rfl) (by simp) ?_
      refine ready_val (o := { dst := some 75, op := Go.Op.buildSlice 24 1 #[(0, Go.Operand.tmp 74)], type := 24, pos := _, after := #[{ on := 11, ground := Go.Ground.data }], guard := none }) rfl rfl _ _ (exec_num1 Tryz.underlying24 _ rfl y rfl) ⟨?_, ?_⟩ AllReadyH.nil
      · exact below_drew (Below.refl _ _) |>.trans (new_below _ _ |>.mono (by simp))
      have O3 := Lib.hid (own_num1 wr.drew y NY.out 0 (Nat.zero_le _)).at_
      have S1 := Lib.hid (show Below wr.heap.size wr (wr.drew.alloc (.cells #[.int .u64 y] 22)) from below_drew (Below.refl _ _) |>.trans (new_below _ _ |>.mono (by simp)))
      try simp only [Act.put, List.setIfInBounds_toArray, List.set_cons_zero, List.set_cons_succ]
      refine wpAnyH_ready (rs := [13]) (by kernel_rfl) (by simp) ?_
      refine AllReadyH.cons (o := { dst := some 76, op := Go.Op.call { callee := Go.Callee.value (Go.Operand.func 14), args := #[Go.Operand.tmp 69, Go.Operand.tmp 70, Go.Operand.tmp 75], argTypes := #[22, 23, 24] }, type := 23, pos := _, after := #[{ on := 6, ground := Go.Ground.data }, { on := 7, ground := Go.Ground.data }, { on := 12, ground := Go.Ground.data }], guard := none }) rfl (fun K hK => ?_) AllReadyH.nil
      go_simp
      refine (refPick_is seed hU A n cap a _ 1 1 [y] (onK (hsum seed) y s) _ (HW.out.below S1.out) (by omega) O3.out (by omega) PK).mono ?_
      rintro e w5 ⟨⟨A5, n5, c5, rfl, r5⟩, b5⟩
      have R5 := Lib.hid r5
      have S2 := Lib.hid (step_ S1.out b5)
      clear r5 b5
      go_wp2_with fail
      refine hK.out _ _ S2.out (fun _ => ?_)
      clear hK K
      try simp only [Act.put, List.setIfInBounds_toArray, List.set_cons_zero, List.set_cons_succ]
      refine wpAnyH_ready (rs := [14]) (by kernel_rfl) (by simp) ?_
      refine AllReadyH.cons (o := { dst := some 77, op := Go.Op.call { callee := Go.Callee.value (Go.Operand.func 12), args := #[Go.Operand.tmp 68, Go.Operand.tmp 76], argTypes := #[23, 23] }, type := 4, pos := _, after := #[{ on := 5, ground := Go.Ground.data }, { on := 13, ground := Go.Ground.data }, { on := 13, ground := Go.Ground.chain }], guard := none }) rfl (fun K hK => ?_) AllReadyH.nil
      go_simp
      refine (rows_is A4 A5 n4 n5 c4 c5 _ _ true _ (R4.out.below S2.out) R5.out (by have := L4.out; omega) (Lib.hid (by simp))).mono ?_
      rintro e w6 ⟨rfl, b6⟩
      have S3 := Lib.hid (step_ S2.out b6)
      clear b6
      go_wp2_with fail
      refine hK.out _ _ S3.out (fun _ => ?_)
      clear hK K
      try simp only [Act.put, List.setIfInBounds_toArray, List.set_cons_zero, List.set_cons_succ]
      refine wpAnyH_take (i := 15) (oi := { dst := some 78, op := Go.Op.unOp Go.UnOp.not 4 (Go.Operand.tmp 77), type := 4, pos := _, after := #[{ on := 14, ground := Go.Ground.data }], guard := none }) (v := ?_) rfl (by kernel_rfl) (by kernel_rfl) (by kernel_rfl) (fun _ _ _ h => h) (Or.inl ⟨by rfl, ?_⟩) S3.out ?_
      rotate_left
      · intro W9 hW; (go_simp; try with_reducible rfl)
      try simp only [Act.put, List.setIfInBounds_toArray, List.set_cons_zero, List.set_cons_succ]
      refine wpAnyH_done (by kernel_rfl) ?_ _
      refine NoPanic.normal ?_
      go_wp2_with fail
      go_roundw
      case rel => exact ⟨j + 1, by omega, by go_num, step_ BB.out S3.out⟩
      case measure => simp [intOf]; omega
    · obtain rfl : j = L.length := by omega
      go_wp2_with fail
      refine (alive_is _).mono ?_
      rintro e w10 ⟨rfl, b10⟩
      have B10 := Lib.hid (step_ BB.out b10)
      clear b10
      go_wp2_with fail
      go_ret
      exact ⟨rfl, step_ B9.out B10.out⟩
end Go.Proofs.YtnpbmihbmilkbaaGreat
