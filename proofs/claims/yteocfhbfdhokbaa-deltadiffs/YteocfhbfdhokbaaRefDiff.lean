/- The contracts of Parts and Diff of the reference. -/
import Derived.Test.YteocfhbfdhokbaaNeedless
import Derived.Test.YteocfhbfdhokbaaLife
namespace Go.Proofs.Yteocfhbfdhokbaa
open Go.RowKit

theorem quiet_eq_am {o : Oper} {a : Act} {W : World} {K : Act → Prop} (x y : Operand) (t : TypeId) (ho : o.op = .binOp .eql 38 x y t) (A B : Am) (b : Bool) (hx : a.eval x = .agg A.cells.toArray) (hy : a.eval y = .agg B.cells.toArray) (hA : A.Ok) (hB : B.Ok) (hb : decide (A = B) = b)
    (hk : K (a.put o.dst (.bool b))) : o.quiet Try.prog a (Cls W) K := quiet_val _ (fun w => (exec_eq_am (w := w) x y t ho A B hx hy hA hB).trans (by rw [hb])) hk
theorem quiet_neq_ky {o : Oper} {a : Act} {W : World} {K : Act → Prop} (x y : Operand) (t : TypeId) (ho : o.op = .binOp .neq 33 x y t) (A B : Ky) (b : Bool) (hx : a.eval x = .agg A.cells.toArray) (hy : a.eval y = .agg B.cells.toArray) (hA : A.Ok) (hB : B.Ok) (hb : (!decide (A = B)) = b)
    (hk : K (a.put o.dst (.bool b))) : o.quiet Try.prog a (Cls W) K := by
  refine quiet_val _ (fun w => ?_) hk
  unfold execOp
  simp only [ho, hx, hy, Sem.run_bind, run_eqGuard_agg w .neq 33 x y _ _ eqg27, Result.andThen_ok, run_neq_struct, eql27 A B hA.ml hB.ml 9997 w, Sem.run_pure, hb]
theorem fill2v (c0 c1 c2 c3 c4 c5 c6 c7 c8 c9 c10 c11 c12 c13 c14 c15 c16 c17 c18 c19 c20 d0 d1 d2 d3 d4 d5 d6 d7 d8 d9 d10 d11 d12 d13 d14 d15 d16 d17 d18 d19 d20 : Value) : Instr.fill (fun i => some (i * 21, 21)) ((Array.range (2 * 21)).map (azero.cells.toArray[· % azero.cells.toArray.size]!)) [(0, .agg #[c0, c1, c2, c3, c4, c5, c6, c7, c8, c9, c10, c11, c12, c13, c14, c15, c16, c17, c18, c19, c20]), (1, .agg #[d0, d1, d2, d3, d4, d5, d6, d7, d8, d9, d10, d11, d12, d13, d14, d15, d16, d17, d18, d19, d20])] = some #[c0, c1, c2, c3, c4, c5, c6, c7, c8, c9, c10, c11, c12, c13, c14, c15, c16, c17, c18, c19, c20, d0, d1, d2, d3, d4, d5, d6, d7, d8, d9, d10, d11, d12, d13, d14, d15, d16, d17, d18, d19, d20] := by kernel_rfl
theorem fill2 (cs ds : List Value) (h : cs.length = 21) (h2 : ds.length = 21) : Instr.fill (fun i => some (i * 21, 21)) ((Array.range (2 * 21)).map (azero.cells.toArray[· % azero.cells.toArray.size]!)) [(0, .agg cs.toArray), (1, .agg ds.toArray)] = some (cs ++ ds).toArray := by
  match cs, h, ds, h2 with
  | [c0, c1, c2, c3, c4, c5, c6, c7, c8, c9, c10, c11, c12, c13, c14, c15, c16, c17, c18, c19, c20], _, [d0, d1, d2, d3, d4, d5, d6, d7, d8, d9, d10, d11, d12, d13, d14, d15, d16, d17, d18, d19, d20], _ => exact fill2v c0 c1 c2 c3 c4 c5 c6 c7 c8 c9 c10 c11 c12 c13 c14 c15 c16 c17 c18 c19 c20 d0 d1 d2 d3 d4 d5 d6 d7 d8 d9 d10 d11 d12 d13 d14 d15 d16 d17 d18 d19 d20
theorem run_two46 (x y : Am) (h : x.Ok) (h2 : y.Ok) (w : World) : (Instr.buildSlice 22 2 #[(0, .agg x.cells.toArray), (1, .agg y.cells.toArray)]).run Try.prog w = .ok (.slice (some ⟨w.heap.size, 0, none⟩) 2 2) (w.alloc (.cells (x.cells ++ y.cells).toArray 38)) := by
  have hf := fill2 x.cells y.cells (acells_len h) (acells_len h2)
  simp only [Instr.buildSlice, Sem.run_bind, run_underlying Try.underlying22, Result.andThen_ok, sizeOf46]
  rw [if_neg (by decide), if_neg (by decide)]
  simp only [Sem.run_bind, Sem.run_pure, Result.andThen_ok, zero32, Value.cells]
  rw [hf]
  rfl
theorem row_two {w : World} {g : Nat} {x y : Am} (h : Blk w g 38 (x.cells ++ y.cells)) (hx : x.Ok) (hy : y.Ok) : RowV w (some ⟨g, 0, none⟩) 2 2 [x, y] := by
  have ok : OkR [x, y] := (okR_nil.cons hy).cons hx
  refine ⟨ok, rfl, Nat.le_refl _, by decide, fun _ => ⟨g, 0, rfl, h.lt, fun i hi j v hv => ?_⟩⟩
  have e := acs_get ok i hi j v hv
  have e2 : acs [x, y] = x.cells ++ y.cells := by simp [acs]
  rw [e2] at e
  have := h.range _ _ e
  rw [show 0 + i * 21 + j = 0 + (i * 21 + j) by omega]
  exact this
theorem wpList_two46 {ops : Array Oper} {rest : List Oper} {op : Oper} {a : Act} {w : World} {Q : Exit → Act → World → Prop} (hgd : op.guard = none) (x y : Operand) (ho : op.op = .buildSlice 22 2 #[(0, x), (1, y)]) (A B : Am) (hx : a.eval x = .agg A.cells.toArray) (hy : a.eval y = .agg B.cells.toArray) (hA : A.Ok) (hB : B.Ok)
    (h : ∀ g w', Hid (RowV w' (some ⟨g, 0, none⟩) 2 2 [A, B]) → Hid (Below w.heap.size w w') → wpList Try.prog ops Q rest (a.put op.dst (.slice (some ⟨g, 0, none⟩) 2 2)) w') : wpList Try.prog ops Q (op :: rest) a w := by
  refine wpList_plain hgd fun K hK => ?_
  have hr := run_two46 A B hA hB w
  unfold Oper.wp execOp
  simp only [ho, List.map_toArray, List.map_cons, List.map_nil, hx, hy, Sem.run_bind, hr, Result.andThen_ok, Sem.run_pure]
  exact hK _ _ (h _ _ (Lib.hid (row_two (blk_alloc w 38 (A.cells ++ B.cells)) hA hB)) (Lib.hid (new_below w _)))
set_option maxRecDepth 100000 in
set_option maxHeartbeats 8000000 in
theorem before_is (a b x y : Am) (r : Bool) (w : World) (ha : a.Ok) (hb : b.Ok) (hn : norm [b, a] = [x, y]) (hr : Hid (decide (x = a) = r)) : Calls Try.prog 29 #[.agg a.cells.toArray, .agg b.cells.toArray] w fun e w' => e = .returned (.bool r) ∧ Below w.heap.size w w' := by
  have K1 := Lib.hid ((blk_alloc w 38 a.cells).alloc (.cells b.cells.toArray 38))
  have K2 := Lib.hid (blk2 w (.cells a.cells.toArray 38) 38 b.cells)
  have QB := Lib.hid (step_ (new_below w (.cells a.cells.toArray 38)) (new_below _ (.cells b.cells.toArray 38)))
  have HA := Lib.hid ha
  have HB := Lib.hid hb
  have HN := Lib.hid hn
  have HR := hr
  clear ha hb hn hr
  go_enter Try.func29, Try.ntmps29
  go_wp2_with (first
    | refine wpList_load_am rfl _ rfl (w.heap.size + 1) b rfl K2.out HB.out ?_
    | refine wpList_load_am rfl _ rfl w.heap.size a rfl K1.out HA.out ?_
    | (refine wpList_two46 rfl _ _ rfl b a rfl rfl HB.out HA.out ?_; intro g3 w3 R3 B3))
  refine (refNorm_is _ _ _ [b, a] _ R3.out (by omega)).mono ?_
  rw [HN.out]
  rintro e w4 ⟨⟨A1, n1, c1, rfl, r1⟩, b4⟩
  obtain rfl : n1 = 2 := r1.len.symm
  have NA := Lib.hid ((K1.out.below B3.out).below b4)
  have B4 := Lib.hid (step_ (step_ QB.out B3.out) b4)
  obtain ⟨G, p, hE⟩ := r1.elem 0 (by omega)
  have E := Lib.hid (show ElemAt w4 A1 2 G p 0 x from hE)
  clear r1 b4 hE
  go_wp2_with fail
  refine region_later (by kernel_rfl) (by kernel_rfl) ?_
  go_big_quiet_step (fail)
  go_big_quiet_step (fail)
  go_big_quiet_step (fail)
  go_big_quiet_step (fail)
  go_big_quiet_step (fail)
  (go_big_quiet_want; refine quiet_index _ _ rfl A1 2 c1 G p 0 x _ rfl rfl (by first | rfl | omega) E.out ?_; go_simp; go_big_quiet_on)
  (go_big_quiet_want; refine quiet_load_amx G p x _ rfl rfl E.out.rg E.out.blk E.out.ok ?_; go_simp; go_big_quiet_on)
  (go_big_quiet_want; refine quiet_load_am w.heap.size a _ rfl rfl NA.out HA.out ?_; go_simp; go_big_quiet_on)
  (go_big_quiet_want; refine quiet_eq_am _ _ _ rfl x a r rfl rfl E.out.ok HA.out HR.out ?_; go_simp; go_big_quiet_on)
  go_big_quiet_step (fail)
  go_big_quiet_step (fail)
  refine wpQuiet_nil ?_
  intro v7 hw7
  have H7 := Lib.hid hw7
  clear hw7
  go_wp2_with fail
  go_ret
  exact ⟨rfl, B4.out.trans (H7.out.mono B4.out.size)⟩
theorem before_kn {a b : Am} (ha : a.Ok) (hb : b.Ok) (ra : a.right = true) (rb : b.right = true) (hk : a.k ≠ b.k) : ∃ x y, norm [b, a] = [x, y] ∧ decide (x = a) = decide (a.k.kn < b.k.kn) := by
  have hne : a.k.kn ≠ b.k.kn := fun e => hk (kn_inj ha.k hb.k e)
  have ok : OkR [b, a] := (okR_nil.cons ha).cons hb
  have hab : a ≠ b := fun e => hk (by rw [e])
  rcases Int.lt_or_gt_of_ne hne with h | h
  · have st : St [a, b] := St.cons ha ra (fun c hc => by rw [List.mem_singleton.1 hc]; exact h) (St.cons hb rb (fun c hc => by cases hc) st_nil)
    refine ⟨a, b, ?_, by rw [decide_eq_true rfl, decide_eq_true h]⟩
    refine ((norm_eq st ok (fun k => ?_))).symm
    rw [← gt_st st, gt_cons ha (okR_nil.cons hb), gt_cons hb (okR_nil.cons ha), gt_cons ha okR_nil, gt_cons hb okR_nil]
    omega
  · have st : St [b, a] := St.cons hb rb (fun c hc => by rw [List.mem_singleton.1 hc]; exact h) (St.cons ha ra (fun c hc => by cases hc) st_nil)
    exact ⟨b, a, norm_id st, by rw [decide_eq_false (Ne.symm hab), decide_eq_false (by omega)]⟩
theorem fnd_exit {Y : List Am} (hY : St Y) {k : Nat} (hk : k < Y.length) {x : Am} (hl : ∀ k', k' < k → (Y.getD k' azero).k.kn < x.k.kn) :
    ((Y.getD k azero).k = x.k → fnd Y x.k = some (Y.getD k azero).v) ∧ (x.k.kn < (Y.getD k azero).k.kn → fnd Y x.k = none) := by
  have e : ∀ j (hj : j < Y.length), Y.getD j azero = Y[j] := fun j hj => by rw [List.getD_eq_getElem?_getD, List.getElem?_eq_getElem hj, Option.getD_some]
  rw [e k hk]
  refine ⟨fun h => by rw [← h]; exact fnd_of_mem hY (List.getElem_mem _), fun h => ?_⟩
  cases ef : fnd Y x.k with
  | none => rfl
  | some v =>
    obtain ⟨j, hj, ej⟩ := List.getElem_of_mem (fnd_mem ef)
    have ek : Y[j].k = x.k := by rw [ej]
    by_cases h1 : j < k
    · have := hl j h1; rw [e j hj, ek] at this; omega
    · by_cases h2 : j = k
      · subst h2; rw [ek] at h; omega
      · have := List.pairwise_iff_getElem.1 hY.so k j hk hj (by omega); rw [ek] at this; omega
theorem fnd_end {Y : List Am} {x : Am} (hl : ∀ k', k' < Y.length → (Y.getD k' azero).k.kn < x.k.kn) : fnd Y x.k = none := by
  cases ef : fnd Y x.k with
  | none => rfl
  | some v =>
    obtain ⟨j, hj, ej⟩ := List.getElem_of_mem (fnd_mem ef)
    have := hl j hj
    rw [List.getD_eq_getElem?_getD, List.getElem?_eq_getElem hj, Option.getD_some, ej] at this
    simp only at this; omega
def dp (Y : List Am) (x : Am) : Bool := !leA (fnd Y) x
theorem dp_diff {a b : List Am} (ha : OkR a) (hb : OkR b) : (norm a).filter (dp (norm b)) = diff a b := by
  unfold diff dp
  refine List.filter_congr (fun x hx => ?_)
  rw [cov_leA ((norm_st ha).ok x hx) ((norm_st ha).rt x hx), show fnd (norm b) = gt b from funext (fnd_norm hb)]
set_option maxRecDepth 100000 in
set_option maxHeartbeats 8000000 in
theorem refParts_is (A : Option Addr) (n cap : Nat) (l : List Am) (w : World) (h : RowV w A n cap l) (hn : n ≤ 600) : Calls Try.prog 7 #[.slice A n cap] w (GivesRs w (parts l)) := by
  have H := Lib.hid h
  obtain ⟨s, hs⟩ : ∃ s, norm l = s := ⟨_, rfl⟩
  have HS := Lib.hid hs
  have HP := Lib.hid (show parts l = s.map fun x => [x] by rw [← hs]; rfl)
  rw [HP.out]
  clear h hs HP
  go_enter Try.func7, Try.ntmps7
  go_wp2_with fail
  refine (refNorm_is A n cap l _ H.out (by omega)).mono ?_
  rw [HS.out]
  rintro e w1 ⟨⟨D1, n1, c1, rfl, r1⟩, b1⟩
  have R1 := Lib.hid r1
  have B1 := Lib.hid b1
  have hn1 : n1 ≤ 600 := by have := norm_len l; rw [HS.out, r1.len, H.out.len] at this; omega
  clear r1 b1
  go_wp2_with fail
  go_loopw [3, 4] (fun v i wr => ∃ j : Nat, j ≤ n1 ∧ i = .int .i64 j ∧ OwnRs wr w1.heap.size 0 v ((s.take j).map fun x => [x]) ∧ Below w1.heap.size w1 wr) (fun _ i _ => n1 - (intOf i).toNat)
  case atStart => exact ⟨0, Nat.zero_le _, rfl, ownRs_nil _ _ _, Below.refl _ _⟩
  case round =>
    obtain ⟨j, hj, rfl, ho, hb⟩ := hrel
    have OO := Lib.hid ho
    have BB := Lib.hid hb
    clear ho hb
    by_cases hlt : j < n1
    · obtain ⟨G, p, hE⟩ := (R1.out.below BB.out).elem j hlt
      have E := Lib.hid hE
      have T := Lib.hid (map_take (d := azero) (fun x => [x]) (show j < s.length by rw [R1.out.len]; exact hlt))
      have LEN := Lib.hid (show ((s.take j).map fun x => [x]).length ≤ 5000 by rw [List.length_map, List.length_take]; omega)
      obtain ⟨x, hx⟩ : ∃ x, s.getD j azero = x := ⟨_, rfl⟩
      rw [hx] at E T
      clear hE hx
      go_wp2_with (first
        | go_skip
        | refine wpList_index rfl _ _ rfl D1 n1 c1 G p j x _ rfl rfl (by first | rfl | omega) E.out ?_
        | refine wpList_load_amx rfl _ rfl G p x rfl E.out.rg E.out.ok ?_
        | (refine wpList_one46 rfl _ rfl x rfl E.out.ok ?_; intro g4 w4 e4 N4 B4)
        | (refine wpList_rows1 rfl _ rfl (some ⟨g4, 0, none⟩) 1 1 rfl ?_; intro g5 w5 e5 N5 B5)
        | (refine wpList_app_rs rfl _ _ rfl w1.heap.size 0 _ ((s.take j).map fun x => [x]) (some ⟨g4, 0, none⟩) 1 1 [x] g5 rfl rfl (OO.out.below (step_ B4.out B5.out)) (row_single (N4.out.below B5.out) E.out.ok) (fun _ a ha => ⟨fun e => by obtain rfl := Option.some.inj ha; have h2 := (OO.out.lt e.symm).2; have := e4.out; simp only at h2; omega, Nat.zero_le _⟩) N5.out LEN.out (Nat.le_trans BB.out.size (step_ B4.out B5.out).size) ?_; intro D7 m7 c7 w7 e7 O7 B7 G7 L7))
      go_roundw
      case rel => exact ⟨j + 1, by omega, by go_num, by rw [T.out]; exact O7.out, (BB.out.trans ((step_ B4.out B5.out).mono BB.out.size)).trans B7.out⟩
      case measure => simp [intOf]; omega
    · obtain rfl : j = n1 := by omega
      have HT := Lib.hid (show s.take j = s from List.take_of_length_le (by have := R1.out.len; omega))
      go_wp2_with fail
      go_ret
      rw [HT.out] at OO
      obtain ⟨E, cp, e9⟩ := OO.out.shape
      have O9 := OO.out
      rw [e9] at O9
      exact ⟨⟨E, _, cp, by rw [← e9]; rfl, O9.rows⟩, B1.out.trans (BB.out.mono B1.out.size)⟩
set_option maxRecDepth 100000 in
set_option maxHeartbeats 16000000 in
theorem refDiff_is (A B : Option Addr) (n m cap cap2 : Nat) (a b : List Am) (w : World) (h : RowV w A n cap a) (h2 : RowV w B m cap2 b) (hn : n ≤ 600) (hm : m ≤ 600) : Calls Try.prog 15 #[.slice A n cap, .slice B m cap2] w (GivesR w (diff a b)) := by
  rw [← dp_diff h.ok h2.ok]
  have H := Lib.hid h
  have J := Lib.hid h2
  have SX := Lib.hid (norm_st h.ok)
  have SY := Lib.hid (norm_st h2.ok)
  obtain ⟨X, hX⟩ : ∃ X, norm a = X := ⟨_, rfl⟩
  obtain ⟨Y, hY⟩ : ∃ Y, norm b = Y := ⟨_, rfl⟩
  rw [hX, hY]
  rw [hX] at SX
  rw [hY] at SY
  have HX := Lib.hid hX
  have HY0 := Lib.hid hY
  clear h h2 hX hY
  go_enter Try.func15, Try.ntmps15
  go_wp2_with fail
  refine (refNorm_is A n cap a _ H.out (by omega)).mono ?_
  rw [HX.out]
  rintro e w1 ⟨⟨A1, n1, c1, rfl, r1⟩, b1⟩
  have B1 := Lib.hid b1
  have R1' := Lib.hid r1
  have hn1 : n1 ≤ 600 := by have := norm_len a; rw [HX.out, r1.len, H.out.len] at this; omega
  clear b1 r1
  go_wp2_with fail
  refine (refNorm_is B m cap2 b _ (J.out.below B1.out) (by omega)).mono ?_
  rw [HY0.out]
  rintro e w2 ⟨⟨A2, n2, c2, rfl, r2⟩, b2⟩
  have B2 := Lib.hid (step_ B1.out b2)
  have R1 := Lib.hid (R1'.out.below b2)
  have R2 := Lib.hid r2
  have hn2 : n2 ≤ 600 := by have := norm_len b; rw [HY0.out, r2.len, J.out.len] at this; omega
  clear b2 r2 R1' H J HX HY0
  go_wp2_with fail
  go_loopw [5, 6, 7] (fun v kk ii wr => ∃ i k : Nat, i ≤ n1 ∧ k ≤ n2 ∧ ii = .int .i64 i ∧ kk = .int .i64 k ∧ OwnR wr w2.heap.size v ((X.take i).filter (dp Y)) ∧ Below w2.heap.size w2 wr ∧ ∀ k', k' < k → ∀ i', i ≤ i' → i' < n1 → (Y.getD k' azero).k.kn < (X.getD i' azero).k.kn) (fun _ _ ii _ => n1 - (intOf ii).toNat)
  case atStart => exact ⟨0, 0, Nat.zero_le _, Nat.zero_le _, rfl, rfl, ownR_nil _ _, Below.refl _ _, fun _ h => absurd h (Nat.not_lt_zero _)⟩
  case round =>
    obtain ⟨i, k0, hi, hk0, rfl, rfl, ho, hb, hl⟩ := hrel
    obtain ⟨D5, c5, e5⟩ := ho.shape
    subst e5
    have OO := Lib.hid ho
    have BB := Lib.hid hb
    have LL0 := Lib.hid hl
    clear ho hb hl
    by_cases hlt : i < n1
    · obtain ⟨G, p, hE⟩ := R1.out.elem i hlt
      have T := Lib.hid (take_getD (l := X) (j := i) (by have := R1.out.len; omega))
      have XM := Lib.hid (show X.getD i azero ∈ X by rw [List.getD_eq_getElem?_getD, List.getElem?_eq_getElem (by rw [R1.out.len]; exact hlt), Option.getD_some]; exact List.getElem_mem _)
      have XN := Lib.hid (show ∀ i', i + 1 ≤ i' → i' < n1 → (X.getD i azero).k.kn < (X.getD i' azero).k.kn from fun i' h1 h2 => by
        have l1 : i < X.length := by rw [R1.out.len]; exact hlt
        have l2 : i' < X.length := by rw [R1.out.len]; exact h2
        rw [List.getD_eq_getElem?_getD, List.getElem?_eq_getElem l1, Option.getD_some, List.getD_eq_getElem?_getD, List.getElem?_eq_getElem l2, Option.getD_some]
        exact List.pairwise_iff_getElem.1 SX.out.so i i' l1 l2 (by omega))
      have LO0 := Lib.hid (show ∀ k', k' < k0 → (Y.getD k' azero).k.kn < (X.getD i azero).k.kn from fun k' h1 => LL0.out k' h1 i (Nat.le_refl _) hlt)
      obtain ⟨x, hx⟩ : ∃ x, X.getD i azero = x := ⟨_, rfl⟩
      have E0 := Lib.hid (show ElemAt w2 A1 n1 G p i x by rw [← hx]; exact hE)
      rw [hx] at T XM XN LO0
      clear hE hx LL0
      have LL := Lib.hid (show ((X.take i).filter (dp Y)).length ≤ 5000 from Nat.le_trans (List.length_filter_le ..) (by rw [List.length_take]; omega))
      go_wp2_with fail
      go_loopw [6] (fun kk wr2 => ∃ k : Nat, k ≤ n2 ∧ kk = .int .i64 k ∧ OwnR wr2 w2.heap.size (.slice D5 ((X.take i).filter (dp Y)).length c5) ((X.take i).filter (dp Y)) ∧ Below w2.heap.size w2 wr2 ∧ ∀ k', k' < k → (Y.getD k' azero).k.kn < x.k.kn) (fun kk _ => n2 - (intOf kk).toNat)
      case atStart => exact ⟨k0, hk0, rfl, OO.out, BB.out, LO0.out⟩
      case round =>
        obtain ⟨k, hk, rfl, ho, hb, hl⟩ := hrel
        have OO := Lib.hid ho
        have BB := Lib.hid hb
        have LO := Lib.hid hl
        clear ho hb hl
        have E := Lib.hid (E0.out.below BB.out)
        have NX := Lib.hid (show ∀ k', k' < k → ∀ i', i + 1 ≤ i' → i' < n1 → (Y.getD k' azero).k.kn < (X.getD i' azero).k.kn from fun k' h1 i' h2 h3 => Int.lt_trans (LO.out k' h1) (XN.out i' h2 h3))
        by_cases hlk : k < n2
        · have hd : decide ((k : Int) < (n2 : Int)) = true := decide_eq_true (by omega)
          have hd2 : ((k : Int) == (n2 : Int)) = false := by simp; omega
          obtain ⟨G2, p2, hF⟩ := R2.out.elem k hlk
          have F0 := Lib.hid hF
          have F := Lib.hid (hF.below BB.out)
          have YM := Lib.hid (show Y.getD k azero ∈ Y by rw [List.getD_eq_getElem?_getD, List.getElem?_eq_getElem (by rw [R2.out.len]; exact hlk), Option.getD_some]; exact List.getElem_mem _)
          have YE := Lib.hid (fnd_exit SY.out (by rw [R2.out.len]; exact hlk) LO.out)
          obtain ⟨y, hy⟩ : ∃ y, Y.getD k azero = y := ⟨_, rfl⟩
          have HY := Lib.hid hy
          rw [hy] at F F0 YM YE
          clear hF hy
          by_cases hek : y.k = x.k
          · have HE := Lib.hid (show (!decide (y.k = x.k)) = false by rw [decide_eq_true hek]; rfl)
            have FE := Lib.hid (YE.out.1 hek)
            clear hek
            go_wp2_with fail
            refine region_later (by kernel_rfl) (by kernel_rfl) ?_
            go_big_quiet_step (fail)
            go_big_quiet_step (fail)
            go_big_quiet_step (fail)
            go_big_quiet_step (fail)
            go_big_quiet_step (fail)
            go_big_quiet_step (fail)
            go_big_quiet_step (fail)
            (go_big_quiet_want; refine quiet_index _ _ rfl A2 n2 c2 G2 p2 k y _ rfl rfl (by first | rfl | omega) F.out ?_; go_simp; go_big_quiet_on)
            go_big_quiet_step (fail)
            (go_big_quiet_want; refine quiet_load_kyx G2 p2 y.k _ rfl rfl (range_ak F.out.rg) F.out.blk F.out.ok.k.ml ?_; go_simp; go_big_quiet_on)
            go_big_quiet_step (fail)
            go_big_quiet_step (fail)
            (go_big_quiet_want; refine quiet_index _ _ rfl A1 n1 c1 G p i x _ rfl rfl (by first | rfl | omega) E.out ?_; go_simp; go_big_quiet_on)
            go_big_quiet_step (fail)
            (go_big_quiet_want; refine quiet_load_kyx G p x.k _ rfl rfl (range_ak E.out.rg) E.out.blk E.out.ok.k.ml ?_; go_simp; go_big_quiet_on)
            (go_big_quiet_want; refine quiet_neq_ky _ _ _ rfl y.k x.k false rfl rfl F.out.ok.k E.out.ok.k HE.out ?_; go_simp; go_big_quiet_on)
            go_big_quiet_step (fail)
            go_big_quiet_step (fail)
            go_big_quiet_step (fail)
            go_big_quiet_step (fail)
            go_big_quiet_step (fail)
            go_big_quiet_step (fail)
            go_big_quiet_step (fail)
            go_big_quiet_step (fail)
            go_big_quiet_step (fail)
            go_big_quiet_step (fail)
            go_big_quiet_step (fail)
            go_big_quiet_step (fail)
            refine wpQuiet_nil ?_
            intro v7 hw7
            have H7 := Lib.hid hw7
            clear hw7
            replace E := Lib.hid (E.out.below H7.out)
            replace OO := Lib.hid (OO.out.below H7.out)
            replace BB := Lib.hid (BB.out.trans (H7.out.mono BB.out.size))
            replace F := Lib.hid (F.out.below H7.out)
            go_wp2_with fail
            cases hov : over y.v x.v with
            | true =>
              have HV := Lib.hid hov
              have DP := Lib.hid (show dp Y x = false by unfold dp leA; rw [FE.out]; simp [hov])
              clear hov
              refine region_later (by kernel_rfl) (by kernel_rfl) ?_
              go_big_quiet_step (fail)
              go_big_quiet_step (fail)
              go_big_quiet_step (fail)
              go_big_quiet_step (fail)
              go_big_quiet_step (fail)
              go_big_quiet_step (fail)
              go_big_quiet_step (fail)
              (go_big_quiet_want; refine quiet_index _ _ rfl A2 n2 c2 G2 p2 k y _ rfl rfl (by first | rfl | omega) F.out ?_; go_simp; go_big_quiet_on)
              go_big_quiet_step (fail)
              (go_big_quiet_want; refine quiet_load_kyx G2 p2 y.k _ rfl rfl (range_ak F.out.rg) F.out.blk F.out.ok.k.ml ?_; go_simp; go_big_quiet_on)
              go_big_quiet_step (fail)
              go_big_quiet_step (fail)
              (go_big_quiet_want; refine quiet_index _ _ rfl A1 n1 c1 G p i x _ rfl rfl (by first | rfl | omega) E.out ?_; go_simp; go_big_quiet_on)
              go_big_quiet_step (fail)
              (go_big_quiet_want; refine quiet_load_kyx G p x.k _ rfl rfl (range_ak E.out.rg) E.out.blk E.out.ok.k.ml ?_; go_simp; go_big_quiet_on)
              (go_big_quiet_want; refine quiet_neq_ky _ _ _ rfl y.k x.k false rfl rfl F.out.ok.k E.out.ok.k HE.out ?_; go_simp; go_big_quiet_on)
              go_big_quiet_step (fail)
              go_big_quiet_step (fail)
              go_big_quiet_step (fail)
              go_big_quiet_step (fail)
              (go_big_quiet_want; refine quiet_index _ _ rfl A2 n2 c2 G2 p2 k y _ rfl rfl (by first | rfl | omega) F.out ?_; go_simp; go_big_quiet_on)
              go_big_quiet_step (fail)
              (go_big_quiet_want; refine quiet_load_vl G2 (p2 + 12) y.v _ rfl rfl (range_av F.out.rg F.out.ok) F.out.blk F.out.ok.v.tl ?_; go_simp; go_big_quiet_on)
              go_big_quiet_step (fail)
              go_big_quiet_step (fail)
              (go_big_quiet_want; refine quiet_index _ _ rfl A1 n1 c1 G p i x _ rfl rfl (by first | rfl | omega) E.out ?_; go_simp; go_big_quiet_on)
              go_big_quiet_step (fail)
              (go_big_quiet_want; refine quiet_load_vl G (p + 12) x.v _ rfl rfl (range_av E.out.rg E.out.ok) E.out.blk E.out.ok.v.tl ?_; go_simp; go_big_quiet_on)
              go_big_quiet_step (exact later_call (refOver_is y.v x.v true _ F.out.ok.v E.out.ok.v HV))
              go_big_quiet_step (fail)
              go_big_quiet_step (fail)
              refine wpQuiet_nil ?_
              intro v9 hw9
              have H9 := Lib.hid hw9
              clear hw9
              replace E := Lib.hid (E.out.below H9.out)
              replace OO := Lib.hid (OO.out.below H9.out)
              replace BB := Lib.hid (BB.out.trans (H9.out.mono BB.out.size))
              go_wp2_with fail
              go_roundw
              case rel => exact ⟨i + 1, k, by omega, hk, by go_num, rfl, by rw [T.out, filter_no DP.out]; exact OO.out, BB.out, NX.out⟩
              case measure => simp [intOf]; omega
            | false =>
              have HV := Lib.hid hov
              have DP := Lib.hid (show dp Y x = true by unfold dp leA; rw [FE.out]; simp [hov])
              clear hov
              refine region_later (by kernel_rfl) (by kernel_rfl) ?_
              go_big_quiet_step (fail)
              go_big_quiet_step (fail)
              go_big_quiet_step (fail)
              go_big_quiet_step (fail)
              go_big_quiet_step (fail)
              go_big_quiet_step (fail)
              go_big_quiet_step (fail)
              (go_big_quiet_want; refine quiet_index _ _ rfl A2 n2 c2 G2 p2 k y _ rfl rfl (by first | rfl | omega) F.out ?_; go_simp; go_big_quiet_on)
              go_big_quiet_step (fail)
              (go_big_quiet_want; refine quiet_load_kyx G2 p2 y.k _ rfl rfl (range_ak F.out.rg) F.out.blk F.out.ok.k.ml ?_; go_simp; go_big_quiet_on)
              go_big_quiet_step (fail)
              go_big_quiet_step (fail)
              (go_big_quiet_want; refine quiet_index _ _ rfl A1 n1 c1 G p i x _ rfl rfl (by first | rfl | omega) E.out ?_; go_simp; go_big_quiet_on)
              go_big_quiet_step (fail)
              (go_big_quiet_want; refine quiet_load_kyx G p x.k _ rfl rfl (range_ak E.out.rg) E.out.blk E.out.ok.k.ml ?_; go_simp; go_big_quiet_on)
              (go_big_quiet_want; refine quiet_neq_ky _ _ _ rfl y.k x.k false rfl rfl F.out.ok.k E.out.ok.k HE.out ?_; go_simp; go_big_quiet_on)
              go_big_quiet_step (fail)
              go_big_quiet_step (fail)
              go_big_quiet_step (fail)
              go_big_quiet_step (fail)
              (go_big_quiet_want; refine quiet_index _ _ rfl A2 n2 c2 G2 p2 k y _ rfl rfl (by first | rfl | omega) F.out ?_; go_simp; go_big_quiet_on)
              go_big_quiet_step (fail)
              (go_big_quiet_want; refine quiet_load_vl G2 (p2 + 12) y.v _ rfl rfl (range_av F.out.rg F.out.ok) F.out.blk F.out.ok.v.tl ?_; go_simp; go_big_quiet_on)
              go_big_quiet_step (fail)
              go_big_quiet_step (fail)
              (go_big_quiet_want; refine quiet_index _ _ rfl A1 n1 c1 G p i x _ rfl rfl (by first | rfl | omega) E.out ?_; go_simp; go_big_quiet_on)
              go_big_quiet_step (fail)
              (go_big_quiet_want; refine quiet_load_vl G (p + 12) x.v _ rfl rfl (range_av E.out.rg E.out.ok) E.out.blk E.out.ok.v.tl ?_; go_simp; go_big_quiet_on)
              go_big_quiet_step (exact later_call (refOver_is y.v x.v false _ F.out.ok.v E.out.ok.v HV))
              go_big_quiet_step (fail)
              go_big_quiet_step (fail)
              refine wpQuiet_nil ?_
              intro v9 hw9
              have H9 := Lib.hid hw9
              clear hw9
              replace E := Lib.hid (E.out.below H9.out)
              replace OO := Lib.hid (OO.out.below H9.out)
              replace BB := Lib.hid (BB.out.trans (H9.out.mono BB.out.size))
              have HB := Lib.hid BB.out.size
              go_wp2_with (first
                | go_skip
                | refine wpList_index rfl _ _ rfl A1 n1 c1 G p i x _ rfl rfl (by first | rfl | omega) E.out ?_
                | refine wpList_load_amx rfl _ rfl G p x rfl E.out.rg E.out.ok ?_
                | (refine wpList_one46 rfl _ rfl x rfl E.out.ok ?_; intro g6 w6 e6 N6 B6)
                | (refine wpList_app rfl _ _ rfl w2.heap.size _ ((X.take i).filter (dp Y)) x g6 rfl rfl (OO.out.below B6.out) E.out.ok N6.out LL.out (Nat.le_trans HB.out B6.out.size) ?_; intro D7 m7 c7 w7 e7 O7 B7 G7))
              go_roundw
              case rel => exact ⟨i + 1, k, by omega, hk, by go_num, rfl, by rw [T.out, filter_yes DP.out]; exact O7.out, BB.out.trans ((B6.out.mono HB.out).trans B7.out), NX.out⟩
              case measure => simp [intOf]; omega
          · have HE := Lib.hid (show (!decide (y.k = x.k)) = true by rw [decide_eq_false hek]; rfl)
            obtain ⟨f1, f2, hbn, hbd⟩ := before_kn F.out.ok E.out.ok (SY.out.rt y YM.out) (SX.out.rt x XM.out) hek
            have KNE := Lib.hid (show y.k.kn ≠ x.k.kn from fun e => hek (kn_inj F.out.ok.k E.out.ok.k e))
            have BN := Lib.hid hbn
            clear hek hbn
            by_cases hkn : y.k.kn < x.k.kn
            · have HF := Lib.hid (show decide (f1 = y) = true by rw [hbd]; exact decide_eq_true hkn)
              have LO2 := Lib.hid (show ∀ k', k' < k + 1 → (Y.getD k' azero).k.kn < x.k.kn from fun k' h1 => by
                by_cases h2 : k' < k
                · exact LO.out k' h2
                · obtain rfl : k' = k := by omega
                  rw [HY.out]; exact hkn)
              clear hkn hbd
              go_wp2_with fail
              refine region_later (by kernel_rfl) (by kernel_rfl) ?_
              go_big_quiet_step (fail)
              go_big_quiet_step (fail)
              go_big_quiet_step (fail)
              go_big_quiet_step (fail)
              go_big_quiet_step (fail)
              go_big_quiet_step (fail)
              go_big_quiet_step (fail)
              (go_big_quiet_want; refine quiet_index _ _ rfl A2 n2 c2 G2 p2 k y _ rfl rfl (by first | rfl | omega) F.out ?_; go_simp; go_big_quiet_on)
              go_big_quiet_step (fail)
              (go_big_quiet_want; refine quiet_load_kyx G2 p2 y.k _ rfl rfl (range_ak F.out.rg) F.out.blk F.out.ok.k.ml ?_; go_simp; go_big_quiet_on)
              go_big_quiet_step (fail)
              go_big_quiet_step (fail)
              (go_big_quiet_want; refine quiet_index _ _ rfl A1 n1 c1 G p i x _ rfl rfl (by first | rfl | omega) E.out ?_; go_simp; go_big_quiet_on)
              go_big_quiet_step (fail)
              (go_big_quiet_want; refine quiet_load_kyx G p x.k _ rfl rfl (range_ak E.out.rg) E.out.blk E.out.ok.k.ml ?_; go_simp; go_big_quiet_on)
              (go_big_quiet_want; refine quiet_neq_ky _ _ _ rfl y.k x.k true rfl rfl F.out.ok.k E.out.ok.k HE.out ?_; go_simp; go_big_quiet_on)
              go_big_quiet_step (fail)
              go_big_quiet_step (fail)
              go_big_quiet_step (fail)
              go_big_quiet_step (fail)
              (go_big_quiet_want; refine quiet_index _ _ rfl A2 n2 c2 G2 p2 k y _ rfl rfl (by first | rfl | omega) F.out ?_; go_simp; go_big_quiet_on)
              (go_big_quiet_want; refine quiet_load_amx G2 p2 y _ rfl rfl F.out.rg F.out.blk F.out.ok ?_; go_simp; go_big_quiet_on)
              go_big_quiet_step (fail)
              go_big_quiet_step (fail)
              (go_big_quiet_want; refine quiet_index _ _ rfl A1 n1 c1 G p i x _ rfl rfl (by first | rfl | omega) E.out ?_; go_simp; go_big_quiet_on)
              (go_big_quiet_want; refine quiet_load_amx G p x _ rfl rfl E.out.rg E.out.blk E.out.ok ?_; go_simp; go_big_quiet_on)
              go_big_quiet_step (exact later_call (before_is y x f1 f2 true _ F.out.ok E.out.ok BN.out HF))
              go_big_quiet_step (fail)
              refine wpQuiet_nil ?_
              intro v7 hw7
              have H7 := Lib.hid hw7
              clear hw7
              replace E := Lib.hid (E.out.below H7.out)
              replace OO := Lib.hid (OO.out.below H7.out)
              replace BB := Lib.hid (BB.out.trans (H7.out.mono BB.out.size))
              go_wp2_with fail
              go_roundw
              case rel => exact ⟨k + 1, by omega, by go_num, OO.out, BB.out, LO2.out⟩
              case measure => simp [intOf]; omega
            · have HF := Lib.hid (show decide (f1 = y) = false by rw [hbd]; exact decide_eq_false hkn)
              have FE := Lib.hid (YE.out.2 (by have := KNE.out; omega))
              have DP := Lib.hid (show dp Y x = true by unfold dp leA; rw [FE.out]; rfl)
              clear hkn hbd
              go_wp2_with fail
              refine region_later (by kernel_rfl) (by kernel_rfl) ?_
              go_big_quiet_step (fail)
              go_big_quiet_step (fail)
              go_big_quiet_step (fail)
              go_big_quiet_step (fail)
              go_big_quiet_step (fail)
              go_big_quiet_step (fail)
              go_big_quiet_step (fail)
              (go_big_quiet_want; refine quiet_index _ _ rfl A2 n2 c2 G2 p2 k y _ rfl rfl (by first | rfl | omega) F.out ?_; go_simp; go_big_quiet_on)
              go_big_quiet_step (fail)
              (go_big_quiet_want; refine quiet_load_kyx G2 p2 y.k _ rfl rfl (range_ak F.out.rg) F.out.blk F.out.ok.k.ml ?_; go_simp; go_big_quiet_on)
              go_big_quiet_step (fail)
              go_big_quiet_step (fail)
              (go_big_quiet_want; refine quiet_index _ _ rfl A1 n1 c1 G p i x _ rfl rfl (by first | rfl | omega) E.out ?_; go_simp; go_big_quiet_on)
              go_big_quiet_step (fail)
              (go_big_quiet_want; refine quiet_load_kyx G p x.k _ rfl rfl (range_ak E.out.rg) E.out.blk E.out.ok.k.ml ?_; go_simp; go_big_quiet_on)
              (go_big_quiet_want; refine quiet_neq_ky _ _ _ rfl y.k x.k true rfl rfl F.out.ok.k E.out.ok.k HE.out ?_; go_simp; go_big_quiet_on)
              go_big_quiet_step (fail)
              go_big_quiet_step (fail)
              go_big_quiet_step (fail)
              go_big_quiet_step (fail)
              (go_big_quiet_want; refine quiet_index _ _ rfl A2 n2 c2 G2 p2 k y _ rfl rfl (by first | rfl | omega) F.out ?_; go_simp; go_big_quiet_on)
              (go_big_quiet_want; refine quiet_load_amx G2 p2 y _ rfl rfl F.out.rg F.out.blk F.out.ok ?_; go_simp; go_big_quiet_on)
              go_big_quiet_step (fail)
              go_big_quiet_step (fail)
              (go_big_quiet_want; refine quiet_index _ _ rfl A1 n1 c1 G p i x _ rfl rfl (by first | rfl | omega) E.out ?_; go_simp; go_big_quiet_on)
              (go_big_quiet_want; refine quiet_load_amx G p x _ rfl rfl E.out.rg E.out.blk E.out.ok ?_; go_simp; go_big_quiet_on)
              go_big_quiet_step (exact later_call (before_is y x f1 f2 false _ F.out.ok E.out.ok BN.out HF))
              go_big_quiet_step (fail)
              refine wpQuiet_nil ?_
              intro v7 hw7
              have H7 := Lib.hid hw7
              clear hw7
              replace E := Lib.hid (E.out.below H7.out)
              replace OO := Lib.hid (OO.out.below H7.out)
              replace BB := Lib.hid (BB.out.trans (H7.out.mono BB.out.size))
              replace F := Lib.hid (F.out.below H7.out)
              go_wp2_with fail
              refine region_later (by kernel_rfl) (by kernel_rfl) ?_
              go_big_quiet_step (fail)
              go_big_quiet_step (fail)
              go_big_quiet_step (fail)
              go_big_quiet_step (fail)
              go_big_quiet_step (fail)
              go_big_quiet_step (fail)
              go_big_quiet_step (fail)
              (go_big_quiet_want; refine quiet_index _ _ rfl A2 n2 c2 G2 p2 k y _ rfl rfl (by first | rfl | omega) F.out ?_; go_simp; go_big_quiet_on)
              go_big_quiet_step (fail)
              (go_big_quiet_want; refine quiet_load_kyx G2 p2 y.k _ rfl rfl (range_ak F.out.rg) F.out.blk F.out.ok.k.ml ?_; go_simp; go_big_quiet_on)
              go_big_quiet_step (fail)
              go_big_quiet_step (fail)
              (go_big_quiet_want; refine quiet_index _ _ rfl A1 n1 c1 G p i x _ rfl rfl (by first | rfl | omega) E.out ?_; go_simp; go_big_quiet_on)
              go_big_quiet_step (fail)
              (go_big_quiet_want; refine quiet_load_kyx G p x.k _ rfl rfl (range_ak E.out.rg) E.out.blk E.out.ok.k.ml ?_; go_simp; go_big_quiet_on)
              (go_big_quiet_want; refine quiet_neq_ky _ _ _ rfl y.k x.k true rfl rfl F.out.ok.k E.out.ok.k HE.out ?_; go_simp; go_big_quiet_on)
              go_big_quiet_step (fail)
              go_big_quiet_step (fail)
              go_big_quiet_step (fail)
              go_big_quiet_step (fail)
              go_big_quiet_step (fail)
              go_big_quiet_step (fail)
              go_big_quiet_step (fail)
              go_big_quiet_step (fail)
              go_big_quiet_step (fail)
              go_big_quiet_step (fail)
              go_big_quiet_step (fail)
              go_big_quiet_step (fail)
              go_big_quiet_step (fail)
              go_big_quiet_step (fail)
              go_big_quiet_step (fail)
              refine wpQuiet_nil ?_
              intro v9 hw9
              have H9 := Lib.hid hw9
              clear hw9
              replace E := Lib.hid (E.out.below H9.out)
              replace OO := Lib.hid (OO.out.below H9.out)
              replace BB := Lib.hid (BB.out.trans (H9.out.mono BB.out.size))
              have HB := Lib.hid BB.out.size
              go_wp2_with (first
                | go_skip
                | refine wpList_index rfl _ _ rfl A1 n1 c1 G p i x _ rfl rfl (by first | rfl | omega) E.out ?_
                | refine wpList_load_amx rfl _ rfl G p x rfl E.out.rg E.out.ok ?_
                | (refine wpList_one46 rfl _ rfl x rfl E.out.ok ?_; intro g6 w6 e6 N6 B6)
                | (refine wpList_app rfl _ _ rfl w2.heap.size _ ((X.take i).filter (dp Y)) x g6 rfl rfl (OO.out.below B6.out) E.out.ok N6.out LL.out (Nat.le_trans HB.out B6.out.size) ?_; intro D7 m7 c7 w7 e7 O7 B7 G7))
              go_roundw
              case rel => exact ⟨i + 1, k, by omega, hk, by go_num, rfl, by rw [T.out, filter_yes DP.out]; exact O7.out, BB.out.trans ((B6.out.mono HB.out).trans B7.out), NX.out⟩
              case measure => simp [intOf]; omega
        · obtain rfl : k = n2 := by omega
          have hd : decide ((k : Int) < (k : Int)) = false := decide_eq_false (by omega)
          have FE := Lib.hid (fnd_end (Y := Y) (x := x) (by rw [R2.out.len]; exact LO.out))
          have DP := Lib.hid (show dp Y x = true by unfold dp leA; rw [FE.out]; rfl)
          go_wp2_with fail
          refine region_later (by kernel_rfl) (by kernel_rfl) ?_
          go_big_quiet_step (fail)
          go_big_quiet_step (fail)
          go_big_quiet_step (fail)
          go_big_quiet_step (fail)
          go_big_quiet_step (fail)
          go_big_quiet_step (fail)
          go_big_quiet_step (fail)
          go_big_quiet_step (fail)
          go_big_quiet_step (fail)
          go_big_quiet_step (fail)
          go_big_quiet_step (fail)
          go_big_quiet_step (fail)
          go_big_quiet_step (fail)
          go_big_quiet_step (fail)
          go_big_quiet_step (fail)
          go_big_quiet_step (fail)
          go_big_quiet_step (fail)
          go_big_quiet_step (fail)
          go_big_quiet_step (fail)
          go_big_quiet_step (fail)
          go_big_quiet_step (fail)
          go_big_quiet_step (fail)
          go_big_quiet_step (fail)
          go_big_quiet_step (fail)
          go_big_quiet_step (fail)
          go_big_quiet_step (fail)
          go_big_quiet_step (fail)
          go_big_quiet_step (fail)
          refine wpQuiet_nil ?_
          intro v7 hw7
          have H7 := Lib.hid hw7
          clear hw7
          replace E := Lib.hid (E.out.below H7.out)
          replace OO := Lib.hid (OO.out.below H7.out)
          replace BB := Lib.hid (BB.out.trans (H7.out.mono BB.out.size))
          go_wp2_with fail
          refine region_later (by kernel_rfl) (by kernel_rfl) ?_
          go_big_quiet_step (fail)
          go_big_quiet_step (fail)
          go_big_quiet_step (fail)
          go_big_quiet_step (fail)
          go_big_quiet_step (fail)
          go_big_quiet_step (fail)
          go_big_quiet_step (fail)
          go_big_quiet_step (fail)
          go_big_quiet_step (fail)
          go_big_quiet_step (fail)
          go_big_quiet_step (fail)
          go_big_quiet_step (fail)
          go_big_quiet_step (fail)
          go_big_quiet_step (fail)
          go_big_quiet_step (fail)
          go_big_quiet_step (fail)
          go_big_quiet_step (fail)
          go_big_quiet_step (fail)
          go_big_quiet_step (fail)
          go_big_quiet_step (fail)
          go_big_quiet_step (fail)
          go_big_quiet_step (fail)
          go_big_quiet_step (fail)
          go_big_quiet_step (fail)
          go_big_quiet_step (fail)
          go_big_quiet_step (fail)
          go_big_quiet_step (fail)
          go_big_quiet_step (fail)
          go_big_quiet_step (fail)
          go_big_quiet_step (fail)
          go_big_quiet_step (fail)
          refine wpQuiet_nil ?_
          intro v9 hw9
          have H9 := Lib.hid hw9
          clear hw9
          replace E := Lib.hid (E.out.below H9.out)
          replace OO := Lib.hid (OO.out.below H9.out)
          replace BB := Lib.hid (BB.out.trans (H9.out.mono BB.out.size))
          have HB := Lib.hid BB.out.size
          go_wp2_with (first
            | go_skip
            | refine wpList_index rfl _ _ rfl A1 n1 c1 G p i x _ rfl rfl (by first | rfl | omega) E.out ?_
            | refine wpList_load_amx rfl _ rfl G p x rfl E.out.rg E.out.ok ?_
            | (refine wpList_one46 rfl _ rfl x rfl E.out.ok ?_; intro g6 w6 e6 N6 B6)
            | (refine wpList_app rfl _ _ rfl w2.heap.size _ ((X.take i).filter (dp Y)) x g6 rfl rfl (OO.out.below B6.out) E.out.ok N6.out LL.out (Nat.le_trans HB.out B6.out.size) ?_; intro D7 m7 c7 w7 e7 O7 B7 G7))
          go_roundw
          case rel => exact ⟨i + 1, k, by omega, hk, by go_num, rfl, by rw [T.out, filter_yes DP.out]; exact O7.out, BB.out.trans ((B6.out.mono HB.out).trans B7.out), NX.out⟩
          case measure => simp [intOf]; omega
    · obtain rfl : i = n1 := by omega
      have HT := Lib.hid (show X.take i = X from List.take_of_length_le (by have := R1.out.len; omega))
      go_wp2_with fail
      go_ret
      exact GivesR.own (B := w2.heap.size) (by rw [show X.filter (dp Y) = (X.take i).filter (dp Y) by rw [HT.out]]; exact OO.out) (B2.out.trans (BB.out.mono B2.out.size))
end Go.Proofs.Yteocfhbfdhokbaa
