/- Rows of lines (api.Line), and Quantity, Lines and Pieces of the reference. Pieces, Of, Rows, Same and Carts of the reference. Rows of lines compared: handcartref17.Rows. Views (type 43), and Of of the reference. Written by wip/tools/cof_r17.py. Quantity of package cart. -/
import Derived.Test.YtijfbhdbfplghaaGreatH45
import Derived.Test.YtijfbhdbfplghaaGreatH12
import Derived.Test.YtijfbhdbfplghaaGreatH28
import Derived.Test.YtijfbhdbfplghaaGreatH43
import Derived.Test.YtijfbhdbfplghaaGreatH40
namespace Go.Proofs.YtijfbhdbfplghaaGreat
open Go.RowKit Go.Shelf
attribute [local go_sem] Oper.semAt_some
def lnc (x : List Int × Int) : List Value := nmL x.1 ++ [.int .i64 x.2]
def LnOk (x : List Int × Int) : Prop := NOk x.1 ∧ 0 ≤ x.2 ∧ x.2 ≤ 68719476720
def lz : List Int × Int := (M.zero8, 0)
theorem lz_ok : LnOk lz := ⟨zero8_nok, by decide, by decide⟩
theorem lnc_len {x : List Int × Int} (h : x.1.length = 8) : (lnc x).length = 9 := by unfold lnc nmL; rw [List.length_append, List.length_map, h]; rfl
theorem lnc_ones (x : List Int × Int) : ∀ u ∈ lnc x, u.oneCell' = true := fun u hu => by
  unfold lnc at hu
  rcases List.mem_append.1 hu with h | h
  · exact nmL_ones _ u h
  · rw [List.mem_singleton.1 h]; rfl
theorem fillLv (c0 c1 c2 c3 c4 c5 c6 c7 c8 : Value) : Instr.fill (fun i => some (i * 9, 9)) ((Array.range (1 * 9)).map ((lnc lz).toArray[· % (lnc lz).toArray.size]!)) [(0, .agg #[c0, c1, c2, c3, c4, c5, c6, c7, c8])] = some #[c0, c1, c2, c3, c4, c5, c6, c7, c8] := by kernel_rfl
theorem fillL (cs : List Value) (h : cs.length = 9) : Instr.fill (fun i => some (i * 9, 9)) ((Array.range (1 * 9)).map ((lnc lz).toArray[· % (lnc lz).toArray.size]!)) [(0, .agg cs.toArray)] = some cs.toArray := by
  match cs, h with
  | [c0, c1, c2, c3, c4, c5, c6, c7, c8], _ => exact fillLv c0 c1 c2 c3 c4 c5 c6 c7 c8
def EL : ElT (List Int × Int) := ⟨lnc, LnOk, 65, 30, 9, 16, lz⟩
theorem LL : EL.Laws := ⟨Tryz.underlying30, by kernel_rfl, lz_ok, fun a h => lnc_len h.1.1, lnc_ones, by decide, by decide, by decide, by decide, fillL⟩
theorem built_ln' (q : Int) (b0 b1 b2 b3 b4 b5 b6 b7 : Int) : Tryz.prog.built 65 [(0, .agg (nm [b0, b1, b2, b3, b4, b5, b6, b7])), (1, .int .i64 q)] = some (lnc ([b0, b1, b2, b3, b4, b5, b6, b7], q)).toArray := by kernel_rfl
theorem built_ln (q : Int) {m : List Int} (h : m.length = 8) : Tryz.prog.built 65 [(0, .agg (nm m)), (1, .int .i64 q)] = some (lnc (m, q)).toArray := by
  obtain ⟨b0, b1, b2, b3, b4, b5, b6, b7, rfl⟩ := eight h
  exact built_ln' q b0 b1 b2 b3 b4 b5 b6 b7
/-- The call answers a row of lines of its own. -/
def GivesL (w : World) (L : List (List Int × Int)) (e : Ending) (w' : World) : Prop := (∃ v, e = .returned v ∧ OwnG EL w' w.heap.size v L) ∧ Below w.heap.size w w'
set_option maxRecDepth 100000 in
theorem refQua_is (A : Option Addr) (n cap : Nat) (a : List Am) (c : Int) (m : List Int) (q : Int) (b : Bool) (w : World) (h : RowV w A n cap a) (hl : n ≤ 600) (hm : NOk m) (hc : 0 ≤ c ∧ c < 65536) (hq : Hid (quaN a c m = q)) (hb : Hid (presT a c m = b)) : Calls Tryz.prog 8 #[.slice A n cap, .int .u16 c, .agg (nm m)] w fun e w' => e = .returned (.tuple #[.int .i64 q, .bool b]) ∧ Below w.heap.size w w' := by
  have N0 := Lib.hid (blk_alloc w 25 (nmL m))
  have B0 := Lib.hid (new_below w (.cells (nm m) 25))
  have H := Lib.hid h
  have HM := Lib.hid hm
  have PL := Lib.hid (show decide (0 < (liveT a c m).length) = b by rw [← pres_live h.ok]; exact hb.out)
  obtain ⟨T, hT⟩ : ∃ T, tot a c m = T := ⟨_, rfl⟩
  have HT := Lib.hid hT
  have QV := Lib.hid (show q = if b = true then max T 0 else 0 by rw [← hq.out, ← hb.out, ← hT]; rfl)
  obtain ⟨L, hL⟩ : ∃ L, liveT a c m = L := ⟨_, rfl⟩
  rw [hL] at PL
  have HL := Lib.hid hL
  clear h hm hb hq hT hL
  go_enter Tryz.func8, Tryz.ntmps8
  go_wp2_with (refine wpList_load_nm rfl _ rfl w.heap.size 0 m rfl N0.out.range HM.out.1 ?_)
  refine (refLive_is A n cap a c m _ (H.out.below B0.out) hl HM.out.1).mono ?_
  rintro e w1 ⟨⟨v, rfl, o1⟩, b1⟩
  rw [HL.out] at o1
  obtain ⟨A1, n1, cap1, rfl, r1⟩ := o1.rowG LK
  have LN1 := Lib.hid r1.len
  have B1 := Lib.hid (step_ B0.out b1)
  have N1 := Lib.hid (N0.out.below b1)
  have H1 := Lib.hid ((H.out.below B0.out).below b1)
  clear o1 r1 b1
  cases b with
  | false =>
    have e0 : n1 = 0 := by have := of_decide_eq_false PL.out; have := LN1.out; omega
    subst e0
    have Q0 := Lib.hid (show q = 0 from QV.out)
    go_wp2_with fail
    refine bodyPost_ret (results_tmp2 rfl _ _ _) rfl ?_
    exact ⟨by rw [Q0.out]; rfl, B1.out⟩
  | true =>
    have e0 : 0 < n1 := by have := of_decide_eq_true PL.out; have := LN1.out; omega
    have E0 : ((n1 : Int) == 0) = false := beq_eq_false_iff_ne.2 (by omega)
    have Q0 := Lib.hid (show q = max T 0 from QV.out)
    clear e0
    go_wp2_with (refine wpList_load_nm rfl _ rfl w.heap.size 0 m rfl N1.out.range HM.out.1 ?_)
    refine (refTotal_is A n cap a c m T _ H1.out (by omega) HM.out hc HT).mono ?_
    rintro e w2 ⟨rfl, b2⟩
    have B2 := Lib.hid (step_ B1.out b2)
    clear b2
    go_wp2_with fail
    refine bodyPost_ret (results_tmp2 rfl _ _ _) rfl ?_
    refine ⟨?_, B2.out⟩
    rw [Q0.out]
    rfl
def linF (a : List Am) (c : Int) (m : List Int) : List Int × Int := (m, quaN a c m)
theorem linF_ok {a : List Am} (h : OkR a) (c : Int) {m : List Int} (hm : NOk m) : LnOk (linF a c m) := ⟨hm, quaN_rg h c m⟩
theorem lnc_8 {x : List Int × Int} (h : x.1.length = 8) : (lnc x)[8]? = some (.int .i64 x.2) := by
  unfold lnc
  rw [List.getElem?_append_right (by unfold nmL; rw [List.length_map, h]; exact Nat.le_refl _)]
  unfold nmL
  rw [List.length_map, h]
  rfl
set_option maxRecDepth 100000 in
set_option maxHeartbeats 2000000 in
theorem refLines_is (A : Option Addr) (n cap : Nat) (a : List Am) (c : Int) (w : World) (h : RowV w A n cap a) (hl : n ≤ 600) (hc : 0 ≤ c ∧ c < 65536) : Calls Tryz.prog 11 #[.slice A n cap, .int .u16 c] w (GivesL w (linesQ a c)) := by
  have H := Lib.hid h
  have IL := Lib.hid (show (itemsT a c).length ≤ 600 by have := items_len a c; have := norm_len a; have := h.len; omega)
  have OK := Lib.hid (fun m => linF_ok (m := m) h.ok c)
  clear h
  go_enter Tryz.func11, Tryz.ntmps11
  go_wp2_with fail
  refine (refItems_is A n cap a c _ H.out hl).mono ?_
  rintro e w1 ⟨⟨v, rfl, o1⟩, b1⟩
  obtain ⟨L, hL⟩ : ∃ L, itemsT a c = L := ⟨_, rfl⟩
  rw [hL] at o1 IL
  obtain ⟨A1, n1, cap1, rfl, r1⟩ := o1.rowG LN
  have R1 := Lib.hid r1
  have B1 := Lib.hid b1
  have H1 := Lib.hid (H.out.below b1)
  have ML := Lib.hid (show linesQ a c = L.map (linF a c) by rw [← hL]; rfl)
  have J6 : n1 ≤ 600 := by have := r1.len; have := IL.out; omega
  clear o1 r1 b1 hL
  go_wp2_with fail
  go_loopw [5, 7] (fun o i wr => ∃ j : Nat, j ≤ n1 ∧ i = .int .i64 (j : Int) ∧ OwnG EL wr w1.heap.size o ((L.take j).map (linF a c)) ∧ Below w1.heap.size w1 wr) (fun _ i _ => n1 - (intOf i).toNat)
  case atStart => exact ⟨0, Nat.zero_le _, rfl, ownG_nil _ _, Below.refl _ _⟩
  case round =>
    obtain ⟨j, hj, rfl, ho, hb⟩ := hrel
    have OO := Lib.hid ho
    have BB := Lib.hid hb
    clear ho hb
    by_cases hlt : j < n1
    · obtain ⟨G, p, hE⟩ := (R1.out.below BB.out).elem M.zero8 j hlt
      have TK := Lib.hid (take_getDG M.zero8 (l := L) (j := j) (by have := R1.out.len; omega))
      obtain ⟨m, hm⟩ : ∃ m, L.getD j M.zero8 = m := ⟨_, rfl⟩
      rw [hm] at hE TK
      have E := Lib.hid hE
      have MO := Lib.hid (show NOk m from hE.ok)
      have LO := Lib.hid (OK.out m hE.ok)
      obtain ⟨q, hq⟩ : ∃ q, quaN a c m = q := ⟨_, rfl⟩
      obtain ⟨b, hb⟩ : ∃ b, presT a c m = b := ⟨_, rfl⟩
      have HQ := Lib.hid hq
      have HB := Lib.hid hb
      have LE := Lib.hid (show linF a c m = (m, q) by rw [← hq]; rfl)
      rw [LE.out] at LO
      have DL := Lib.hid (show ((L.take j).map (linF a c)).length ≤ 5000 by rw [List.length_map]; have := List.length_take_le j L; have := R1.out.len; have := IL.out; omega)
      have H2 := Lib.hid (H1.out.below BB.out)
      clear hE hm hq hb
      go_wp2_with (first
        | go_skip
        | (refine wpList_val rfl _ (exec_lt _ _ rfl (j : Int) (n1 : Int) true rfl rfl (decide_eq_true (by omega))) ?_)
        | (refine wpList_indexG LN rfl _ _ rfl A1 n1 cap1 G p j m _ rfl rfl (by first | rfl | omega) E.out ?_)
        | (refine wpList_load_nm rfl _ rfl G p m rfl E.out.rg MO.out.1 ?_))
      refine (refQua_is A n cap a c m q b _ H2.out hl MO.out hc HQ HB).mono ?_
      rintro e w2 ⟨rfl, b2⟩
      have B2 := Lib.hid b2
      have E2 := Lib.hid (E.out.below b2)
      have O2 := Lib.hid (OO.out.below b2)
      clear b2
      go_wp2_with (first
        | go_skip
        | (refine wpList_indexG LN rfl _ _ rfl A1 n1 cap1 G p j m _ rfl rfl (by first | rfl | omega) E2.out ?_)
        | (refine wpList_load_nm rfl _ rfl G p m rfl E2.out.rg MO.out.1 ?_)
        | (refine wpList_build rfl 65 _ rfl [(0, .agg (nm m)), (1, .int .i64 q)] rfl _ (built_ln q MO.out.1) ?_)
        | (refine wpList_oneG LL rfl _ rfl (m, q) rfl LO.out ?_; intro g4 w4 e4 N4 Q4)
        | (refine wpList_appG LL rfl _ _ rfl w1.heap.size _ ((L.take j).map (linF a c)) (m, q) g4 rfl rfl (O2.out.below Q4.out) LO.out N4.out DL.out (Nat.le_trans BB.out.size (Nat.le_trans B2.out.size Q4.out.size)) ?_; intro D5 m5 c5 w5 e5 O5 Q5 G5))
      go_roundw
      case rel => exact ⟨j + 1, by omega, by go_num, by rw [TK.out, List.map_append, List.map_singleton, LE.out]; exact O5.out, ((BB.out.trans (B2.out.mono BB.out.size)).trans (Q4.out.mono (Nat.le_trans BB.out.size B2.out.size))).trans Q5.out⟩
      case measure => simp [intOf]; omega
    · obtain rfl : n1 = j := by omega
      have HS := Lib.hid (show L.take n1 = L from List.take_of_length_le (by have := R1.out.len; omega))
      go_wp2_with fail
      go_ret
      rw [HS.out, ← ML.out] at OO
      exact ⟨⟨_, rfl, OO.out.down B1.out.size⟩, step_ B1.out BB.out⟩
end Go.Proofs.YtijfbhdbfplghaaGreat
namespace Go.Proofs.YtijfbhdbfplghaaGreat
open Go.RowKit Go.Shelf
attribute [local go_sem] Oper.semAt_some
theorem exec_addp {o : Oper} {a : Act} {w : World} (x y : Operand) (ho : o.op = .binOp .add 3 x y 3) (p q : Int) (r : Int) (hx : a.eval x = .int .i64 p) (hy : a.eval y = .int .i64 q) (hr : p + q = r) (hb : -281474976710656 ≤ r ∧ r ≤ 281474976710656) :
    (execOp a.eval o).run Tryz.prog w = .ok (.value (.int .i64 r)) w := by
  unfold execOp
  simp only [ho, hx, hy]
  go_simp
  exact wrap_small (by omega) (by omega)
theorem take_sum {l : List (List Int × Int)} {j : Nat} (h : j < l.length) : sumQ (l.take (j + 1)) = sumQ (l.take j) + (l.getD j lz).2 := by
  rw [take_getDG lz h, sumQ_snoc]
set_option maxRecDepth 100000 in
set_option maxHeartbeats 2000000 in
theorem refPieces_is (A : Option Addr) (n cap : Nat) (a : List Am) (c : Int) (P : Int) (w : World) (h : RowV w A n cap a) (hl : n ≤ 600) (hc : 0 ≤ c ∧ c < 65536) (hP : Hid (piecesQ a c = P)) : Calls Tryz.prog 13 #[.slice A n cap, .int .u16 c] w fun e w' => e = .returned (.int .i64 P) ∧ Below w.heap.size w w' := by
  have H := Lib.hid h
  have RG := Lib.hid (linesQ_rg h.ok c)
  have IL := Lib.hid (show (linesQ a c).length ≤ 600 by have := linesQ_len a c; have := norm_len a; have := h.len; omega)
  have SP := Lib.hid (show sumQ (linesQ a c) = P from hP.out)
  clear h hP
  go_enter Tryz.func13, Tryz.ntmps13
  go_wp2_with fail
  refine (refLines_is A n cap a c _ H.out hl hc).mono ?_
  rintro e w1 ⟨⟨v, rfl, o1⟩, b1⟩
  obtain ⟨L, hL⟩ : ∃ L, linesQ a c = L := ⟨_, rfl⟩
  rw [hL] at o1 IL RG SP
  obtain ⟨A1, n1, cap1, rfl, r1⟩ := o1.rowG LL
  have R1 := Lib.hid r1
  have B1 := Lib.hid b1
  have J6 : n1 ≤ 600 := by have := r1.len; have := IL.out; omega
  clear o1 r1 b1 hL
  go_wp2_with fail
  go_loopw [5, 7] (fun o i wr => ∃ j : Nat, j ≤ n1 ∧ i = .int .i64 (j : Int) ∧ o = .int .i64 (sumQ (L.take j)) ∧ Below w1.heap.size w1 wr) (fun _ i _ => n1 - (intOf i).toNat)
  case atStart => exact ⟨0, Nat.zero_le _, rfl, rfl, Below.refl _ _⟩
  case round =>
    obtain ⟨j, hj, rfl, rfl, hb⟩ := hrel
    have BB := Lib.hid hb
    clear hb
    obtain ⟨u, hu⟩ : ∃ u, sumQ (L.take j) = u := ⟨_, rfl⟩
    rw [hu]
    have UR := Lib.hid (show 0 ≤ u ∧ u ≤ 600 * 68719476720 by
      have := sumQ_rg (L.take j) fun x hx => RG.out x (List.mem_of_mem_take hx)
      have h2 := List.length_take_le j L
      rw [hu] at this
      have h3 : (List.take j L).length ≤ 600 := by omega
      omega)
    by_cases hlt : j < n1
    · obtain ⟨G, p, hE⟩ := (R1.out.below BB.out).elem lz j hlt
      have TS := Lib.hid (take_sum (l := L) (j := j) (by have := R1.out.len; omega))
      obtain ⟨x, hx⟩ : ∃ x, L.getD j lz = x := ⟨_, rfl⟩
      rw [hx] at hE TS
      rw [hu] at TS
      have E := Lib.hid hE
      have c8 := hE.rg 8 (.int .i64 x.2) (lnc_8 hE.ok.1.1)
      have XR := Lib.hid hE.ok.2
      clear hE hx hu
      go_wp2_with (first
        | go_skip
        | (refine wpList_val rfl _ (exec_lt _ _ rfl (j : Int) (n1 : Int) true rfl rfl (decide_eq_true (by omega))) ?_)
        | (refine wpList_indexG LL rfl _ _ rfl A1 n1 cap1 G p j x _ rfl rfl (by first | rfl | omega) E.out ?_)
        | (refine wpList_val rfl _ (exec_addp _ _ rfl u x.2 (u + x.2) rfl rfl rfl (by have := UR.out; have := XR.out; omega)) ?_))
      go_roundw
      case rel => exact ⟨j + 1, by omega, by go_num, by rw [TS.out], BB.out⟩
      case measure => simp [intOf]; omega
    · obtain rfl : n1 = j := by omega
      have HS := Lib.hid (show u = P by rw [← hu, List.take_of_length_le (by have := R1.out.len; omega)]; exact SP.out)
      clear hu
      go_wp2_with fail
      go_ret
      exact ⟨by rw [HS.out]; rfl, step_ B1.out BB.out⟩
end Go.Proofs.YtijfbhdbfplghaaGreat
namespace Go.Proofs.YtijfbhdbfplghaaGreat
open Go.RowKit Go.Shelf
attribute [local go_sem] Oper.semAt_some
theorem fieldsL : (Tryz.prog.fieldsOf 65).toList = [⟨ "Item", 25, 0, false, "", "", 0⟩, ⟨ "N", 3, 8, false, "", "", 8⟩] := by kernel_rfl
theorem stoodL : Tryz.prog.stoodInHeld 65 = false := by kernel_rfl
theorem underL : Tryz.prog.underlying 65 = some (.struct (Tryz.prog.fieldsOf 65)) := by kernel_rfl
theorem plain3L : Tryz.prog.plainKey 3 = true := by kernel_rfl
theorem plainL : Tryz.prog.underlying 3 = some (.int .i64) := by kernel_rfl
theorem part_ln0 {x : List Int × Int} (h : x.1.length = 8) (w : World) : (Go.part 25 (lnc x).toArray 0).run Tryz.prog w = .ok (.agg (nm x.1)) w := by
  refine part_row (lnc x).toArray 0 (x.1.map (Value.int .u8)) Tryz.underlying25 rfl size23 ?_ w
  apply Array.ext'
  rw [Array.toList_extract]
  rw [List.extract_eq_take_drop]
  simp only [List.drop_zero]
  unfold lnc nmL
  rw [show 0 + 8 - 0 = (x.1.map (Value.int .u8)).length by rw [List.length_map, h]]
  exact List.take_left ..
theorem sizeL : (Tryz.prog.info? 65).map (·.size) = some 9 := by kernel_rfl
theorem eqlL (a b : List Int × Int) (ha : a.1.length = 8) (hb : b.1.length = 8) (d : Nat) (w : World) : (Op.equalIn (d + 3) 65 (.agg (lnc a).toArray) (.agg (lnc b).toArray)).run Tryz.prog w = .ok (decide (a = b)) w := by
  rw [run_equalIn_struct w (d + 2) 65 _ _ underL stoodL, fieldsL]
  have p0 : ∀ k : List Int × Int, k.1.length = 8 → (Go.part 3 (lnc k).toArray 8).run Tryz.prog w = .ok (.int .i64 k.2) w := fun k hk => run_part_plain w plain3L (by simpa using lnc_8 hk)
  rw [eqF_cons (f := ⟨ "Item", 25, 0, false, "", "", 0⟩) (by decide) (part_ln0 ha w) (part_ln0 hb w) (eql23 a.1 b.1 ha hb d w),
    eqF_cons (f := ⟨ "N", 3, 8, false, "", "", 8⟩) (by decide) (p0 a ha) (p0 b hb) (run_equalIn_int w (d + 1) 3 .i64 .i64 _ _ plainL)]
  obtain ⟨m, q⟩ := a
  obtain ⟨m', q'⟩ := b
  simp only [Prod.mk.injEq, Op.eqFields, Sem.run_pure]
  by_cases e0 : m = m'
  · by_cases e1 : q = q'
    · simp [e0, e1]
    · simp [e0, e1]
  · simp [e0]
theorem eqgL : Tryz.prog.eqGuardType Tryz.prog.depth 65 = false := by kernel_rfl
theorem exec_neq_ln {o : Oper} {a : Act} {w : World} (x y : Operand) (t : TypeId) (ho : o.op = .binOp .neq 65 x y t) (A B : List Int × Int) (hx : a.eval x = .agg (lnc A).toArray) (hy : a.eval y = .agg (lnc B).toArray) (hA : A.1.length = 8) (hB : B.1.length = 8) :
    (execOp a.eval o).run Tryz.prog w = .ok (.value (.bool (!decide (A = B)))) w := by
  unfold execOp
  simp only [ho, hx, hy, Sem.run_bind, run_eqGuard_agg w .neq 65 x y _ _ eqgL, Result.andThen_ok, run_neq_struct, eqlL A B hA hB 9997 w, Sem.run_pure]
theorem quiet_neq_ln {o : Oper} {a : Act} {W : World} {K : Act → Prop} (x y : Operand) (t : TypeId) (ho : o.op = .binOp .neq 65 x y t) (A B : List Int × Int) (b : Bool) (hx : a.eval x = .agg (lnc A).toArray) (hy : a.eval y = .agg (lnc B).toArray) (hA : A.1.length = 8) (hB : B.1.length = 8) (hb : (!decide (A = B)) = b)
    (hk : K (a.put o.dst (.bool b))) : o.quiet Tryz.prog a (Cls W) K := quiet_val _ (fun _ => by rw [exec_neq_ln x y t ho A B hx hy hA hB, hb]) hk
theorem quiet_load_ln {o : Oper} {a : Act} {W : World} {K : Act → Prop} (G off : Nat) (m : List Int × Int) (x : Operand) (ho : o.op = .load 65 x) (hx : a.eval x = .pointer (some ⟨G, off, none⟩)) (hat : W.rangeAt G off (lnc m)) (hG : G < W.heap.size) (hm : m.1.length = 8)
    (hk : K (a.put o.dst (.agg (lnc m).toArray))) : o.quiet Tryz.prog a (Cls W) K := quiet_load_cs 65 G off (lnc m) _ x ho hx hat hG underL rfl (by rw [lnc_len hm]; exact sizeL) hk
set_option maxRecDepth 100000 in
theorem rowsL_other (A A2 : Option Addr) (n m cap cap2 : Nat) (w : World) (hnm : (n : Int) ≠ (m : Int)) : Calls Tryz.prog 9 #[.slice A n cap, .slice A2 m cap2] w fun e w' => e = .returned (.bool false) ∧ Below w.heap.size w w' := by
  have hd : (((n : Int)) == (m : Int)) = false := beq_eq_false_iff_ne.2 hnm
  clear hnm
  go_enter Tryz.func9, Tryz.ntmps9
  go_wp2_with fail
  go_ret
  exact ⟨rfl, Below.refl _ _⟩
set_option maxRecDepth 100000 in
set_option maxHeartbeats 2000000 in
theorem rowsL_len (A A2 : Option Addr) (n cap cap2 : Nat) (l m : List (List Int × Int)) (b : Bool) (w : World) (h : RowG EL w A n cap l) (h2 : RowG EL w A2 n cap2 m) (hn : n ≤ 5000) (hb : Hid (decide (l = m) = b)) : Calls Tryz.prog 9 #[.slice A n cap, .slice A2 n cap2] w fun e w' => e = .returned (.bool b) ∧ Below w.heap.size w w' := by
  have H := Lib.hid h
  have J := Lib.hid h2
  clear h h2
  go_enter Tryz.func9, Tryz.ntmps9
  go_wp2_with fail
  go_loopw [5] (fun i wr => ∃ j : Nat, j ≤ n ∧ i = .int .i64 j ∧ decide (l.drop j = m.drop j) = b ∧ Below w.heap.size w wr) (fun i _ => n - (intOf i).toNat)
  case atStart => exact ⟨0, Nat.zero_le _, rfl, hb.out, Below.refl _ _⟩
  case round =>
    obtain ⟨j, hj, rfl, hf, hb⟩ := hrel
    have HF := Lib.hid hf
    have BB := Lib.hid hb
    clear hf hb
    by_cases hlt : j < n
    · obtain ⟨G, p, hE⟩ := (H.out.below BB.out).elem lz j hlt
      obtain ⟨G2, p2, hE2⟩ := (J.out.below BB.out).elem lz j hlt
      have E := Lib.hid hE
      have F := Lib.hid hE2
      have T := Lib.hid (drop_getDG lz (l := l) (j := j) (by have := H.out.len; omega))
      have U := Lib.hid (drop_getDG lz (l := m) (j := j) (by have := J.out.len; omega))
      obtain ⟨x, hx⟩ : ∃ x, l.getD j lz = x := ⟨_, rfl⟩
      obtain ⟨y, hy⟩ : ∃ y, m.getD j lz = y := ⟨_, rfl⟩
      rw [hx] at E T
      rw [hy] at F U
      clear hE hx hE2 hy
      by_cases hkk : x = y
      · have HE := Lib.hid (show (!decide (x = y)) = false by simp [hkk])
        have HO := Lib.hid (show decide (l.drop (j + 1) = m.drop (j + 1)) = b by rw [← HF.out, T.out, U.out, hkk]; simp)
        clear hkk
        go_wp2_with fail
        refine region_later (by kernel_rfl) (by kernel_rfl) ?_
        go_big_quiet_step (fail)
        go_big_quiet_step (fail)
        (go_big_quiet_want; refine quiet_indexG LL _ _ rfl A n cap G p j x _ rfl rfl (by first | rfl | omega) E.out ?_; go_simp; go_big_quiet_on)
        (go_big_quiet_want; refine quiet_load_ln G p x _ rfl rfl E.out.rg E.out.blk E.out.ok.1.1 ?_; go_simp; go_big_quiet_on)
        go_big_quiet_step (fail)
        go_big_quiet_step (fail)
        (go_big_quiet_want; refine quiet_indexG LL _ _ rfl A2 n cap2 G2 p2 j y _ rfl rfl (by first | rfl | omega) F.out ?_; go_simp; go_big_quiet_on)
        (go_big_quiet_want; refine quiet_load_ln G2 p2 y _ rfl rfl F.out.rg F.out.blk F.out.ok.1.1 ?_; go_simp; go_big_quiet_on)
        (go_big_quiet_want; refine quiet_neq_ln _ _ _ rfl x y false rfl rfl E.out.ok.1.1 F.out.ok.1.1 HE.out ?_; go_simp; go_big_quiet_on)
        refine wpQuiet_nil ?_
        intro w2 hw2
        have B2 := Lib.hid (step_ BB.out hw2)
        clear hw2
        go_wp2_with fail
        go_roundw
        case rel => exact ⟨j + 1, by omega, by go_num, HO.out, B2.out⟩
        case measure => simp [intOf]; omega
      · have HE := Lib.hid (show (!decide (x = y)) = true by simp [hkk])
        have HO := Lib.hid (show b = false by rw [← HF.out, T.out, U.out]; simp [hkk])
        clear hkk
        go_wp2_with fail
        refine region_later (by kernel_rfl) (by kernel_rfl) ?_
        go_big_quiet_step (fail)
        go_big_quiet_step (fail)
        (go_big_quiet_want; refine quiet_indexG LL _ _ rfl A n cap G p j x _ rfl rfl (by first | rfl | omega) E.out ?_; go_simp; go_big_quiet_on)
        (go_big_quiet_want; refine quiet_load_ln G p x _ rfl rfl E.out.rg E.out.blk E.out.ok.1.1 ?_; go_simp; go_big_quiet_on)
        go_big_quiet_step (fail)
        go_big_quiet_step (fail)
        (go_big_quiet_want; refine quiet_indexG LL _ _ rfl A2 n cap2 G2 p2 j y _ rfl rfl (by first | rfl | omega) F.out ?_; go_simp; go_big_quiet_on)
        (go_big_quiet_want; refine quiet_load_ln G2 p2 y _ rfl rfl F.out.rg F.out.blk F.out.ok.1.1 ?_; go_simp; go_big_quiet_on)
        (go_big_quiet_want; refine quiet_neq_ln _ _ _ rfl x y true rfl rfl E.out.ok.1.1 F.out.ok.1.1 HE.out ?_; go_simp; go_big_quiet_on)
        refine wpQuiet_nil ?_
        intro w2 hw2
        have B2 := Lib.hid (step_ BB.out hw2)
        clear hw2
        go_wp2_with fail
        go_ret
        exact ⟨ret_bool HO.out.symm, B2.out⟩
    · obtain rfl : j = n := by omega
      have HO := Lib.hid (show b = true by rw [← HF.out, List.drop_of_length_le (by have := H.out.len; omega), List.drop_of_length_le (by have := J.out.len; omega)]; rfl)
      go_wp2_with fail
      go_ret
      exact ⟨ret_bool HO.out.symm, BB.out⟩
theorem rowsL_is (A A2 : Option Addr) (n m cap cap2 : Nat) (l k : List (List Int × Int)) (b : Bool) (w : World) (h : RowG EL w A n cap l) (h2 : RowG EL w A2 m cap2 k) (hn : n ≤ 5000) (hb : Hid (decide (l = k) = b)) : Calls Tryz.prog 9 #[.slice A n cap, .slice A2 m cap2] w fun e w' => e = .returned (.bool b) ∧ Below w.heap.size w w' := by
  by_cases e : n = m
  · subst e
    exact rowsL_len A A2 n cap cap2 l k b w h h2 hn hb
  · have hf : b = false := by
      rw [← hb.out]
      refine decide_eq_false (fun e2 => e ?_)
      rw [← h.len, ← h2.len, e2]
    rw [hf]
    exact rowsL_other A A2 n m cap cap2 w (by omega)
end Go.Proofs.YtijfbhdbfplghaaGreat
namespace Go.Proofs.YtijfbhdbfplghaaGreat
open Go.RowKit Go.Shelf
attribute [local go_sem] Oper.semAt_some
def vcs (D : Option Addr) (n cp : Nat) (t : List Int) : List Value := .slice D n cp :: nmL t
theorem vcs_len {D : Option Addr} {n cp : Nat} {t : List Int} (h : t.length = 8) : (vcs D n cp t).length = 9 := by unfold vcs nmL; rw [List.length_cons, List.length_map, h]
theorem vcs_one (D : Option Addr) (n cp : Nat) (t : List Int) : (vcs D n cp t).toArray.all (·.oneCell') = true := by
  rw [List.all_toArray, List.all_eq_true]
  intro u hu
  rcases List.mem_cons.1 hu with e | e
  · rw [e]; rfl
  · exact nmL_ones t u e
theorem OwnG.geS2 {α : Type} {E : ElT α} {w : World} {B : Nat} {v : Value} {l : List α} {i : Nat} (h : OwnG E w B v l) (hi : i < B) : ∀ k, v.ownBlock = some k → k ≠ i := fun k e => by have := (h.row.lt k e).1; omega
/-- The call answers a view: a row of lines of its own, and a text. -/
def GivesW (w : World) (L : List (List Int × Int)) (t : List Int) (e : Ending) (w' : World) : Prop := (∃ D n cp, e = .returned (.agg (vcs D n cp t).toArray) ∧ OwnG EL w' w.heap.size (.slice D n cp) L) ∧ Below w.heap.size w w'
end Go.Proofs.YtijfbhdbfplghaaGreat
namespace Go.Proofs.YtijfbhdbfplghaaGreat
open Go.RowKit Go.Shelf
attribute [local go_sem] Oper.semAt_some
set_option maxRecDepth 100000 in
theorem qua_is (A : Option Addr) (n cap : Nat) (a : List Am) (c : Int) (m : List Int) (q : Int) (b : Bool) (w : World) (h : RowV w A n cap a) (hl : n ≤ 600) (hm : NOk m) (hq : Hid (quaN a c m = q)) (hb : Hid (presT a c m = b)) : Calls Tryz.prog 7 #[.slice A n cap, .int .u16 c, .agg (nm m)] w fun e w' => e = .returned (.tuple #[.int .i64 q, .bool b]) ∧ Below w.heap.size w w' := by
  have N0 := Lib.hid (blk_alloc w 25 (nmL m))
  have B0 := Lib.hid (new_below w (.cells (nm m) 25))
  have H := Lib.hid h
  have HM := Lib.hid hm
  have PB := Lib.hid (show presT (onC c a) c m = b by rw [pres_onC h.ok]; exact hb.out)
  obtain ⟨T, hT⟩ : ∃ T, tot (onC c a) c m = T := ⟨_, rfl⟩
  have HT := Lib.hid hT
  have QV := Lib.hid (show q = if b = true then max T 0 else 0 by rw [← hq.out, ← qua_onC h.ok, ← PB.out, ← hT]; rfl)
  clear h hm hb hq hT
  go_enter Tryz.func7, Tryz.ntmps7
  go_wp2_with fail
  refine (only_is A n cap a c _ (H.out.below B0.out) (by omega)).mono ?_
  rintro e w1 ⟨⟨A1, n1, cap1, rfl, r1, -⟩, b1⟩
  have R1 := Lib.hid r1
  have L1 := Lib.hid (show n1 ≤ 600 by have h1 := r1.len; have h2 := onC_len c a; have h3 := H.out.len; omega)
  have B1 := Lib.hid (step_ B0.out b1)
  have N1 := Lib.hid (N0.out.below b1)
  clear r1 b1
  go_wp2_with (refine wpList_load_nm rfl _ rfl w.heap.size 0 m rfl N1.out.range HM.out.1 ?_)
  refine (present_is A1 n1 cap1 (onC c a) c m b _ R1.out L1.out HM.out.1 PB).mono ?_
  rintro e w2 ⟨rfl, b2⟩
  have R2 := Lib.hid (R1.out.below b2)
  have B2 := Lib.hid (step_ B1.out b2)
  have N2 := Lib.hid (N1.out.below b2)
  clear b2
  cases b with
  | false =>
    have Q0 := Lib.hid (show q = 0 from QV.out)
    go_wp2_with fail
    refine bodyPost_ret (results_tmp2 rfl _ _ _) rfl ?_
    exact ⟨by rw [Q0.out]; rfl, B2.out⟩
  | true =>
    have Q0 := Lib.hid (show q = max T 0 from QV.out)
    go_wp2_with (refine wpList_load_nm rfl _ rfl w.heap.size 0 m rfl N2.out.range HM.out.1 ?_)
    refine (total_is A1 n1 cap1 (onC c a) c m T _ R2.out L1.out HM.out.1 HT).mono ?_
    rintro e w3 ⟨rfl, b3⟩
    have B3 := Lib.hid (step_ B2.out b3)
    clear b3
    go_wp2_with fail
    refine bodyPost_ret (results_tmp2 rfl _ _ _) rfl ?_
    refine ⟨?_, B3.out⟩
    rw [Q0.out]
    rfl
end Go.Proofs.YtijfbhdbfplghaaGreat
