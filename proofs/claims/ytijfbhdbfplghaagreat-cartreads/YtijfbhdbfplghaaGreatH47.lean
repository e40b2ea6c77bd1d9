/- visit of package cart: a line of each item that is present is handed over, one behind the other. Written by wip/tools/cvis_r17.py. Lines and Pieces of package cart: what their closures do to the variable that they share. Views of package cart (type 41), and Of. Written by wip/tools/cview_r17.py. Same of the reference: views compared. -/
import Derived.Test.YtijfbhdbfplghaaGreatH01
import Derived.Test.YtijfbhdbfplghaaGreatH42
import Derived.Test.YtijfbhdbfplghaaGreatH46
import Derived.Test.YtijfbhdbfplghaaGreatH27
namespace Go.Proofs.YtijfbhdbfplghaaGreat
open Go.RowKit Go.Shelf Go.Maps
attribute [local go_sem] Oper.semAt_some
section
variable {K : Type} [DecidableEq K] [Inhabited (MKd K)]
theorem ready_lookR {ops : Array Oper} {Q : Exit → Act → World → Prop} {md : Region.Mode} {S : World → Prop} {fuel : Nat} {listed : Array Bool} {a : Act} {w : World} {i : Nat} {o : Oper} {rs : List Nat} (ho : ops[i]? = some o) (hg : o.guard = none) (x y : Operand) (hop : o.op = .lookup (MK.mt K) x y false) (B b n : Nat) (ky : Am → K) (s : List Am) (k : K) (hx : a.eval x = .map (some b)) (hy : a.eval y = MK.kv k) (hm : Grps w B b n ky s) (hk : MK.ok k)
    (h : ∀ v, RowAt w v (onK ky k s) → S w ∧ wpAnyH Tryz.prog md ops Q S fuel (listed.setIfInBounds i true) (a.put o.dst v) w)
    (hs : AllReadyH Tryz.prog md ops Q S fuel listed a w rs) : AllReadyH Tryz.prog md ops Q S fuel listed a w (i :: rs) := by
  refine AllReadyH.cons ho (fun K hK => ?_) hs
  have hw : Region.wanted o (yielded ops a.tmps) = true := by simp [Region.wanted, hg]
  rw [if_pos hw]
  obtain ⟨v, hr, h1⟩ := hm.at_ hk
  have H := h v h1
  unfold Oper.wp execOp
  simp only [hop, hx, hy, Sem.run_bind, hr, Result.andThen_ok, Sem.run_pure]
  exact hK.out _ _ H.1 (fun _ => H.2)
theorem Grps.only {w w' : World} {B b n g : Nat} {ky : Am → K} {s : List Am} (h : Grps w B b n ky s) (ho : Only g w w') (hg : g < B) : Grps w' B b n ky s := by
  obtain ⟨f, h1, h2⟩ := h.ex
  have hgr : w.grownBy w' (some g) := ⟨ho.os, ho.tape, ho.output, ho.size, fun k hk hn => ho.block k hk (fun e => hn (by rw [e]))⟩
  have hlo := h.lo
  refine ⟨h.lo, f, h1.kept hgr (fun e => by have := Option.some.inj e; omega), h2.kept (fun _ h => h) hgr fun k v hk e => ?_⟩
  cases e2 : v.ownBlock with
  | none => exact .inl rfl
  | some x =>
    right
    intro e3
    have := ((h2.row k v hk e).1.row.lt x e2).1
    have := Option.some.inj e3
    omega
end
theorem only_later {g : Nat} {w a b : World} (h : Only g w a) (hb : Below a.heap.size a b) : Only g w b :=
  ⟨hb.os.trans h.os, hb.tape.trans h.tape, hb.output.trans h.output, Nat.le_trans h.size hb.size, fun k hk hn => (hb.block k (Nat.lt_of_lt_of_le hk h.size)).trans (h.block k hk hn)⟩
theorem only_from {g : Nat} {w a b : World} (h : Below w.heap.size w a) (ho : Only g a b) : Only g w b :=
  ⟨ho.os.trans h.os, ho.tape.trans h.tape, ho.output.trans h.output, Nat.le_trans h.size ho.size, fun k hk hn => (ho.block k (Nat.lt_of_lt_of_le hk h.size) hn).trans (h.block k hk)⟩
theorem only_refl (g : Nat) (w : World) : Only g w w := ⟨rfl, rfl, rfl, Nat.le_refl _, fun _ _ _ => rfl⟩
theorem RowG.only {α : Type} {E : ElT α} {w w' : World} {A : Option Addr} {n cap g : Nat} {l : List α} (h : RowG E w A n cap l) (ho : Only g w w') (hA : ∀ G off, A = some ⟨G, off, none⟩ → G ≠ g) : RowG E w' A n cap l :=
  ⟨h.ok, h.len, h.le, h.most, fun h0 => by
    obtain ⟨G, off, ha, hG, hr⟩ := h.at_ h0
    refine ⟨G, off, ha, Nat.lt_of_lt_of_le hG ho.size, fun i hi j v hv => ?_⟩
    have e : w'.heap[G]? = w.heap[G]? := ho.block G hG (hA G off ha)
    have := hr i hi j v hv
    unfold World.cell? at this ⊢
    rw [e]; exact this⟩
set_option maxRecDepth 100000 in
set_option maxHeartbeats 4000000 in
theorem visit_is (fn g : Nat) (hfn : fn = 31 ∨ fn = 33) (J : Nat → List (List Int × Int) → World → Prop) (A : Option Addr) (n cap : Nat) (a : List Am) (c : Int) (w : World) (h : RowV w A n cap a) (hl : n ≤ 600) (hg : g < w.heap.size)
    (h0 : ∀ V, Below w.heap.size w V → J V.heap.size [] V) (hb : ∀ B pre V V', J B pre V → Below V.heap.size V V' → J B pre V')
    (hc : ∀ (W1 : World) (pre : List (List Int × Int)) (x : List Int × Int) (V : World), LnOk x → pre.length ≤ 600 → g < W1.heap.size → Only g W1 V → J W1.heap.size pre V → Calls Tryz.prog fn #[.agg (lnc x).toArray, .pointer (some ⟨g, 0, none⟩)] V fun e V' => e = .returned (.tuple #[]) ∧ J W1.heap.size (pre ++ [x]) V' ∧ Only g W1 V') :
    Calls Tryz.prog 30 #[.slice A n cap, .int .u16 c, .func (.func fn) #[] #[.pointer (some ⟨g, 0, none⟩)]] w fun e w' => e = .returned (.tuple #[]) ∧ (∃ B, w.heap.size ≤ B ∧ B ≤ w'.heap.size ∧ J B (linesQ a c) w') ∧ Only g w w' := by
  have H := Lib.hid h
  have OC := Lib.hid (onC_ok h.ok c)
  have OK := Lib.hid (fun m => linF_ok (m := m) h.ok c)
  have OA := Lib.hid h.ok
  have hz2 := zero23
  clear h
  go_enter Tryz.func30, Tryz.ntmps30
  go_wp2_with fail
  refine (only_is A n cap a c _ H.out (by omega)).mono ?_
  rintro e w1 ⟨⟨A1, n1, cap1, rfl, r1, -⟩, b1⟩
  have R1 := Lib.hid r1
  have L1 := Lib.hid (show n1 ≤ 600 by have h1 := r1.len; have h2 := onC_len c a; have h3 := H.out.len; omega)
  have B1 := Lib.hid b1
  clear r1 b1
  go_wp2_with fail
  refine (groupI_is A1 n1 cap1 (onC c a) _ R1.out (by have := L1.out; omega)).mono ?_
  rintro e w2 ⟨b, rfl, g2, b2⟩
  have G2 := Lib.hid g2
  have B2 := Lib.hid (step_ B1.out b2)
  have R2 := Lib.hid (R1.out.below b2)
  clear g2 b2
  go_wp2_with fail
  refine (items_is A1 n1 cap1 (onC c a) c _ R2.out L1.out).mono ?_
  rintro e w3 ⟨⟨v, rfl, o3⟩, b3⟩
  rw [items_onC OA.out] at o3
  obtain ⟨L, hL⟩ : ∃ L, itemsT a c = L := ⟨_, rfl⟩
  have IL := Lib.hid (show L.length ≤ 600 by rw [← hL]; have h1 := items_len a c; have h2 := norm_len a; have h3 := H.out.len; omega)
  rw [hL] at o3
  have OB := Lib.hid (fun k e => (o3.row.lt k e).1)
  obtain ⟨A3, n3, cap3, rfl, r3⟩ := o3.rowG LN
  have R3 := Lib.hid r3
  have G3 := Lib.hid (G2.out.below b3)
  have B3 := Lib.hid (step_ B2.out b3)
  have ML := Lib.hid (show linesQ a c = L.map (linF a c) by rw [← hL]; rfl)
  have N3 := Lib.hid r3.len
  have J6 : n3 ≤ 600 := by have := r3.len; have := IL.out; omega
  have GW := Lib.hid (Nat.lt_of_lt_of_le hg B3.out.size)
  have G1 := Lib.hid (Nat.lt_of_lt_of_le hg B1.out.size)
  have G0 := Lib.hid (Nat.lt_of_lt_of_le hg B2.out.size)
  clear o3 r3 b3 hL
  go_wp2_with fail
  go_loopw [21] (fun i wr => ∃ j : Nat, j ≤ n3 ∧ i = .int .i64 (j : Int) ∧ J w3.heap.size ((L.take j).map (linF a c)) wr ∧ Only g w3 wr) (fun i _ => n3 - (intOf i).toNat)
  case atStart => exact ⟨0, Nat.zero_le _, rfl, h0 _ B3.out, only_refl _ _⟩
  case round =>
    obtain ⟨j, hj, rfl, hJ, hO⟩ := hrel
    have JJ := Lib.hid hJ
    have OO := Lib.hid hO
    clear hJ hO
    by_cases hlt : j < n3
    · obtain ⟨G, p, hE⟩ := (R3.out.only OO.out (fun G off e => by have := OB.out G (by rw [e]; rfl); have := G0.out; omega)).elem M.zero8 j hlt
      have TK := Lib.hid (take_getDG M.zero8 (l := L) (j := j) (by have := N3.out; omega))
      obtain ⟨m, hm⟩ : ∃ m, L.getD j M.zero8 = m := ⟨_, rfl⟩
      rw [hm] at hE TK
      have E := Lib.hid hE
      have MO := Lib.hid (show NOk m from hE.ok)
      obtain ⟨q, hq⟩ : ∃ q, quaN a c m = q := ⟨_, rfl⟩
      obtain ⟨b4, hb4⟩ : ∃ b4, presT (onM m (onC c a)) c m = b4 := ⟨_, rfl⟩
      have HQ := Lib.hid (show quaN (onM m (onC c a)) c m = q by rw [qua_look OA.out]; exact hq)
      have HB := Lib.hid hb4
      have LE := Lib.hid (show linF a c m = (m, q) by rw [← hq]; rfl)
      have LO := Lib.hid (OK.out m hE.ok)
      rw [LE.out] at LO
      have PL := Lib.hid (show ((L.take j).map (linF a c)).length ≤ 600 by rw [List.length_map]; have := List.length_take_le j L; have := N3.out; have := IL.out; omega)
      have Z := Lib.hid (blk_alloc wr 25 (nmL M.zero8))
      clear hE hm hq hb4
      go_wp2_with (first
        | go_skip
        | (refine wpList_val rfl _ (exec_lt _ _ rfl (j : Int) (n3 : Int) true rfl rfl (decide_eq_true (by omega))) ?_)
        | (refine wpList_indexG LN rfl _ _ rfl A3 n3 cap3 G p j m _ rfl rfl (by first | rfl | omega) E.out ?_)
        | (refine wpList_load_nm rfl _ rfl G p m rfl E.out.rg MO.out.1 ?_)
        | (refine wpList_store_cs rfl 25 _ _ rfl wr.heap.size (nmL M.zero8) (nmL m) rfl rfl Z.out (by unfold nmL; rw [List.length_map, List.length_map, MO.out.1]; rfl) (size_nmL MO.out.1) (nm_one m) ?_; intro wz N9 O9))
      have LT9 := Lib.hid hlt
      obtain ⟨g9, hg9⟩ : ∃ g9, wr.heap.size = g9 := ⟨_, rfl⟩
      have BZ := Lib.hid (box_below O9.out)
      have OZ := Lib.hid (only_later OO.out BZ.out)
      have JZ := Lib.hid (hb _ _ _ _ JJ.out BZ.out)
      have GZ := Lib.hid (G3.out.only OZ.out G1.out)
      rw [hg9] at N9
      try simp only [hg9]
      have S0 := Lib.hid (below_drew (Below.refl wz.heap.size wz))
      clear hg9 O9 Z E BZ
      refine wp_region_noPanic ?_
      refine wp_region_held_drew (S := fun W => Below wz.heap.size wz W) (by kernel_rfl) S0.out (fun _ => ?_)
      refine tkm 0 rfl S0.out ?_; try simp only [Act.put, stA, stZ, stS]
      refine tky 1 (.agg (nmL m).toArray) rfl (yieldsIf_load_mid (by rfl) 25 (.tmp 9) rfl g9 0 rfl (nmL m) _ (fun W hW => (N9.out.below hW).range) Tryz.underlying25 rfl (size_nmL MO.out.1)) S0.out ?_; try simp only [Act.put, stA, stZ, stS]
      refine tkm 3 rfl S0.out ?_; try simp only [Act.put, stA, stZ, stS]
      refine tky 4 (.agg (nmL m).toArray) rfl (yieldsIf_load_mid (by rfl) 25 (.tmp 9) rfl g9 0 rfl (nmL m) _ (fun W hW => (N9.out.below hW).range) Tryz.underlying25 rfl (size_nmL MO.out.1)) S0.out ?_; try simp only [Act.put, stA, stZ, stS]
      refine rdy [2] ?_
      refine ready_lookR (arR rfl) rfl _ _ rfl w1.heap.size b n1 (fun x : Am => x.k.m) (onC c a) m rfl rfl (GZ.out.below S0.out) MO.out (fun v4 r4 => ?_) AllReadyH.nil
      obtain ⟨A4, n4, cap4, rfl, r4⟩ := r4
      have R4 := Lib.hid r4
      have L4 := Lib.hid (show n4 ≤ 600 by have h1 := r4.len; have h2 := onK_len (fun x : Am => x.k.m) m (onC c a); have h3 := onC_len c a; have h4 := H.out.len; omega)
      clear r4
      refine ⟨S0.out, ?_⟩
      try simp only [Act.put, stA, stZ, stS]
      refine rdy [5] ?_
      refine AllReadyH.cons (arR rfl) (fun K hK => ?_) AllReadyH.nil
      go_simp
      refine (qua_is A4 n4 cap4 (onM m (onC c a)) c m q b4 _ R4.out L4.out MO.out HQ HB).mono ?_
      rintro e w5 ⟨rfl, b5⟩
      have S5 := Lib.hid (step_ S0.out b5)
      clear b5
      go_wp2_with fail
      refine hK.out _ _ S5.out (fun _ => ?_)
      clear hK K
      try simp only [Act.put, stA, stZ, stS]
      refine tkm 6 rfl S5.out ?_; try simp only [Act.put, stA, stZ, stS]
      refine tkm 7 rfl S5.out ?_; try simp only [Act.put, stA, stZ, stS]
      refine tkm 8 rfl S5.out ?_; try simp only [Act.put, stA, stZ, stS]
      refine tkm 9 rfl S5.out ?_; try simp only [Act.put, stA, stZ, stS]
      refine tkm 10 rfl S5.out ?_; try simp only [Act.put, stA, stZ, stS]
      refine wpAnyH_done (by kernel_rfl) ?_ _
      refine NoPanic.normal ?_
      have N5 := Lib.hid (N9.out.below S5.out)
      have J5 := Lib.hid (hb _ _ _ _ JZ.out S5.out)
      have OO5 := Lib.hid (only_later OZ.out S5.out)
      have HC := hc
      rcases hfn with rfl | rfl
      all_goals
        go_wp2_with (first
          | refine wpList_load_nm rfl _ rfl g9 0 m rfl N5.out.range MO.out.1 ?_
          | refine wpList_build rfl 65 _ rfl [(0, .agg (nm m)), (1, .int .i64 q)] rfl _ (built_ln q MO.out.1) ?_)
        refine (HC w3 _ (m, q) _ LO.out PL.out GW.out OO5.out J5.out).mono ?_
        rintro e w6 ⟨rfl, j6, o6⟩
        have J6 := Lib.hid j6
        have O6 := Lib.hid o6
        clear j6 o6
        go_wp2_with fail
        go_roundw
        case rel => exact ⟨j + 1, by have := LT9.out; omega, by go_num, by rw [TK.out, List.map_append, List.map_singleton, LE.out]; exact J6.out, O6.out⟩
        case measure => have := LT9.out; simp [intOf]; omega
    · obtain rfl : j = n3 := by omega
      have HS := Lib.hid (show L.take j = L from List.take_of_length_le (by have := N3.out; omega))
      go_wp2_with fail
      rw [HS.out, ← ML.out] at JJ
      refine bodyPost_end (results_none rfl _ _ _) rfl ?_
      exact ⟨rfl, ⟨_, B3.out.size, OO.out.size, JJ.out⟩, only_from B3.out OO.out⟩
end Go.Proofs.YtijfbhdbfplghaaGreat
namespace Go.Proofs.YtijfbhdbfplghaaGreat
open Go.RowKit Go.Shelf Go.Maps
attribute [local go_sem] Oper.semAt_some
theorem exec_storeL {o : Oper} {a : Act} {w : World} (x y : Operand) (ho : o.op = .store 30 x y) (g : Nat) (u : Value) (D : Option Addr) (m c : Nat) (hx : a.eval x = .pointer (some ⟨g, 0, none⟩)) (hy : a.eval y = .slice D m c) (hb : Blk w g 30 [u]) :
    (execOp a.eval o).run Tryz.prog w = .ok .skip (w.setCell ⟨g, 0, none⟩ (.slice D m c)) := by
  have hc := hb.cell (i := 0) rfl
  have hf := hb.frozen 0
  unfold execOp
  simp only [ho, hx, hy]
  simp [go_sem, hc, hf]
theorem wpList_storeL {ops : Array Oper} {rest : List Oper} {op : Oper} {a : Act} {w : World} {Q : Exit → Act → World → Prop} (hgd : op.guard = none) (x y : Operand) (ho : op.op = .store 30 x y) (g : Nat) (u : Value) (D : Option Addr) (m c : Nat) (hx : a.eval x = .pointer (some ⟨g, 0, none⟩)) (hy : a.eval y = .slice D m c) (hb : Blk w g 30 [u])
    (h : ∀ w', Hid (Blk w' g 30 [.slice D m c]) → Hid (Only g w w') → wpList Tryz.prog ops Q rest (a.put op.dst undef) w') : wpList Tryz.prog ops Q (op :: rest) a w := by
  refine wpList_plain hgd fun K hK => ?_
  unfold Oper.wp
  rw [exec_storeL x y ho g u D m c hx hy hb]
  exact hK _ _ (h _ (Lib.hid (hb.set 0 (.slice D m c))) (Lib.hid (Only.set g 0 w (.slice D m c))))
theorem OwnG.onlyS {α : Type} {E : ElT α} {w w' : World} {B g : Nat} {v : Value} {l : List α} (h : OwnG E w B v l) (ho : Only g w w') (hg : g < B) : OwnG E w' B v l :=
  ⟨h.ok, h.row.kept (row := some g) ⟨ho.os, ho.tape, ho.output, ho.size, fun k hk hn => ho.block k hk (fun e => hn (by rw [e]))⟩ (by
    cases e : v.ownBlock with
    | none => exact .inl rfl
    | some k => right; intro e2; have := (h.row.lt k e).1; have := Option.some.inj e2; omega)⟩
theorem wpList_load_ln {ops : Array Oper} {rest : List Oper} {op : Oper} {a : Act} {w : World} {Q : Exit → Act → World → Prop} (hgd : op.guard = none) (x : Operand) (ho : op.op = .load 65 x) (g o : Nat) (m : List Int × Int)
    (hx : a.eval x = .pointer (some ⟨g, o, none⟩)) (hr : w.rangeAt g o (lnc m)) (hm : m.1.length = 8) (h : wpList Tryz.prog ops Q rest (a.put op.dst (.agg (lnc m).toArray)) w) : wpList Tryz.prog ops Q (op :: rest) a w :=
  wpList_load_mid hgd 65 x ho g o hx (lnc m) _ hr underL rfl (by rw [lnc_len hm]; exact sizeL) h
/-- The variable in block g holds the lines of l, in a row from block B on. -/
def JL (g B : Nat) (l : List (List Int × Int)) (V : World) : Prop := ∃ D m cp, Blk V g 30 [.slice D m cp] ∧ OwnG EL V B (.slice D m cp) l
theorem JL.below {g B : Nat} {l : List (List Int × Int)} {V V' : World} (h : JL g B l V) (hb : Below V.heap.size V V') : JL g B l V' := by
  obtain ⟨D, m, cp, h1, h2⟩ := h
  exact ⟨D, m, cp, h1.below hb, h2.below hb⟩
set_option maxRecDepth 100000 in
theorem line1_is (g : Nat) (W1 : World) (pre : List (List Int × Int)) (x : List Int × Int) (V : World) (hx : LnOk x) (hp : pre.length ≤ 600) (hg : g < W1.heap.size) (ho : Only g W1 V) (hJ : JL g W1.heap.size pre V) :
    Calls Tryz.prog 31 #[.agg (lnc x).toArray, .pointer (some ⟨g, 0, none⟩)] V fun e V' => e = .returned (.tuple #[]) ∧ JL g W1.heap.size (pre ++ [x]) V' ∧ Only g W1 V' := by
  obtain ⟨D, m, cp, h1, h2⟩ := hJ
  have N0 := Lib.hid (blk_alloc V 65 (lnc x))
  have B0 := Lib.hid (new_below V (.cells (lnc x).toArray 65))
  have H1 := Lib.hid (h1.below B0.out)
  have H2 := Lib.hid (h2.below B0.out)
  have c0 := H1.out.cell (i := 0) rfl
  have XO := Lib.hid hx
  have OO := Lib.hid ho
  have PL := Lib.hid (show pre.length ≤ 5000 by omega)
  have GW := Lib.hid hg
  clear h1 h2 hx ho hp hg
  go_enter Tryz.func31, Tryz.ntmps31
  go_wp2_with (first
    | (refine wpList_load_ln rfl _ rfl V.heap.size 0 x rfl N0.out.range XO.out.1.1 ?_)
    | (refine wpList_oneG LL rfl _ rfl x rfl XO.out ?_; intro g4 w4 e4 N4 Q4)
    | (refine wpList_appG LL rfl _ _ rfl W1.heap.size _ pre x g4 rfl rfl (H2.out.below Q4.out) XO.out N4.out PL.out (Nat.le_trans OO.out.size (Nat.le_trans B0.out.size Q4.out.size)) ?_; intro D5 m5 c5 w5 e5 O5 Q5 G5)
    | (refine wpList_storeL rfl _ _ rfl g (.slice D m cp) D5 m5 c5 rfl rfl ((H1.out.below Q4.out).upto Q5.out GW.out) ?_; intro w6 N6 O6))
  refine bodyPost_end (results_none rfl _ _ _) rfl ?_
  exact ⟨rfl, ⟨D5, m5, c5, N6.out, O5.out.onlyS O6.out GW.out⟩, (only_below (only_later (only_later OO.out B0.out) Q4.out) Q5.out (Nat.le_refl _)).trans O6.out⟩
set_option maxRecDepth 100000 in
theorem lines_is (A : Option Addr) (n cap : Nat) (a : List Am) (c : Int) (w : World) (h : RowV w A n cap a) (hl : n ≤ 600) : Calls Tryz.prog 10 #[.slice A n cap, .int .u16 c] w (GivesL w (linesQ a c)) := by
  have Z0 := Lib.hid (blk_alloc w 30 [.slice none 0 0])
  have B0 := Lib.hid (new_below w (.cells #[.slice none 0 0] 30))
  have H0 := Lib.hid (h.below B0.out)
  clear h
  go_enter Tryz.func10, Tryz.ntmps10
  go_wp2_with fail
  refine (visit_is 31 w.heap.size (.inl rfl) (JL w.heap.size) A n cap a c _ H0.out hl (by simp) (fun V hb => ⟨none, 0, 0, Z0.out.below hb, ownG_nil _ _⟩) (fun B pre V V' h hb => h.below hb) (fun W1 pre x V hx hp hg ho hJ => line1_is _ W1 pre x V hx hp hg ho hJ)).mono ?_
  rintro e w2 ⟨rfl, ⟨B, hB, -, D, m, cp, h1, h2⟩, ho⟩
  have O2 := Lib.hid h2
  have c0 := h1.cell (i := 0) rfl
  have BX := Lib.hid (box_below ho)
  clear h1 h2 ho
  go_wp2_with fail
  go_ret
  exact ⟨⟨_, rfl, O2.out.down (Nat.le_trans B0.out.size hB)⟩, BX.out⟩
/-- The variable in block g holds the sum of the quantities of l. -/
def JP (g : Nat) (l : List (List Int × Int)) (V : World) : Prop := Blk V g 3 [.int .i64 (sumQ l)] ∧ ∀ x ∈ l, LnOk x
set_option maxRecDepth 100000 in
theorem piece1_is (g : Nat) (W1 : World) (pre : List (List Int × Int)) (x : List Int × Int) (V : World) (hx : LnOk x) (hp : pre.length ≤ 600) (ho : Only g W1 V) (hJ : JP g pre V) :
    Calls Tryz.prog 33 #[.agg (lnc x).toArray, .pointer (some ⟨g, 0, none⟩)] V fun e V' => e = .returned (.tuple #[]) ∧ JP g (pre ++ [x]) V' ∧ Only g W1 V' := by
  obtain ⟨h1, h2⟩ := hJ
  have N0 := Lib.hid (blk_alloc V 65 (lnc x))
  have B0 := Lib.hid (new_below V (.cells (lnc x).toArray 65))
  have H1 := Lib.hid (h1.below B0.out)
  have H2 := Lib.hid h2
  have XO := Lib.hid hx
  have OO := Lib.hid ho
  have SR := Lib.hid (show 0 ≤ sumQ pre ∧ sumQ pre ≤ 600 * 68719476720 by
    have := sumQ_rg pre fun y hy => (h2 y hy).2
    omega)
  obtain ⟨u, hu⟩ : ∃ u, sumQ pre = u := ⟨_, rfl⟩
  have SN := Lib.hid (show sumQ (pre ++ [x]) = u + x.2 by rw [sumQ_snoc, hu])
  rw [hu] at H1 SR
  have c0 := H1.out.cell (i := 0) rfl
  have c8 := N0.out.cell (i := 8) (lnc_8 hx.1.1)
  clear h1 h2 hx ho hp hu
  go_enter Tryz.func33, Tryz.ntmps33
  go_wp2_with (first
    | (refine wpList_val rfl _ (exec_addp _ _ rfl u x.2 (u + x.2) rfl rfl rfl (by have := SR.out; have := XO.out.2; omega)) ?_)
    | (refine wpList_store_i Tryz.sizeOf3 rfl _ _ rfl g (.int .i64 u) (u + x.2) rfl rfl H1.out ?_; intro w6 N6 O6))
  refine bodyPost_end (results_none rfl _ _ _) rfl ?_
  refine ⟨rfl, ⟨by rw [SN.out]; exact N6.out, fun y hy => ?_⟩, (only_later OO.out B0.out).trans O6.out⟩
  rcases List.mem_append.1 hy with hy | hy
  · exact H2.out y hy
  · rw [List.mem_singleton.1 hy]; exact XO.out
set_option maxRecDepth 100000 in
theorem pieces_is (A : Option Addr) (n cap : Nat) (a : List Am) (c : Int) (P : Int) (w : World) (h : RowV w A n cap a) (hl : n ≤ 600) (hP : Hid (piecesQ a c = P)) : Calls Tryz.prog 12 #[.slice A n cap, .int .u16 c] w fun e w' => e = .returned (.int .i64 P) ∧ Below w.heap.size w w' := by
  have Z0 := Lib.hid (blk_alloc w 3 [.int .i64 0])
  have H := Lib.hid h
  have PP := Lib.hid (show sumQ (linesQ a c) = P from hP.out)
  clear h hP
  go_enter Tryz.func12, Tryz.ntmps12
  go_wp2_with (refine wpList_store_i Tryz.sizeOf3 rfl _ _ rfl w.heap.size (.int .i64 0) 0 rfl rfl Z0.out ?_; intro w1 N1 O1)
  have B1 := Lib.hid (box_below O1.out)
  refine (visit_is 33 w.heap.size (.inr rfl) (fun _ l V => JP w.heap.size l V) A n cap a c _ (H.out.below B1.out) hl N1.out.lt (fun V hb => ⟨N1.out.below hb, fun _ h => (by cases h)⟩) (fun B pre V V' h hb => ⟨h.1.below hb, h.2⟩) (fun W1 pre x V hx hp hg ho hJ => piece1_is _ W1 pre x V hx hp ho hJ)).mono ?_
  rintro e w2 ⟨rfl, ⟨B, hB, -, h1, -⟩, ho⟩
  rw [PP.out] at h1
  have c0 := h1.cell (i := 0) rfl
  have BX := Lib.hid (B1.out.trans (ho.below (Nat.le_refl _) B1.out.size))
  clear h1 ho
  go_wp2_with fail
  go_ret
  exact ⟨rfl, BX.out⟩
end Go.Proofs.YtijfbhdbfplghaaGreat
namespace Go.Proofs.YtijfbhdbfplghaaGreat
open Go.RowKit Go.Shelf
attribute [local go_sem] Oper.semAt_some
theorem sizeW : (Tryz.prog.info? 41).map (·.size) = some 9 := by kernel_rfl
theorem size_w {D : Option Addr} {n cp : Nat} {t : List Int} (h : t.length = 8) : (Tryz.prog.info? 41).map (·.size) = some (vcs D n cp t).length := by rw [vcs_len h]; exact sizeW
theorem built_w' (D : Option Addr) (n cp : Nat) (b0 b1 b2 b3 b4 b5 b6 b7 : Int) : Tryz.prog.built 41 [(0, .slice D n cp), (1, .agg (nm [b0, b1, b2, b3, b4, b5, b6, b7]))] = some (vcs D n cp [b0, b1, b2, b3, b4, b5, b6, b7]).toArray := by kernel_rfl
theorem built_w (D : Option Addr) (n cp : Nat) {t : List Int} (h : t.length = 8) : Tryz.prog.built 41 [(0, .slice D n cp), (1, .agg (nm t))] = some (vcs D n cp t).toArray := by
  obtain ⟨b0, b1, b2, b3, b4, b5, b6, b7, rfl⟩ := eight h
  exact built_w' D n cp b0 b1 b2 b3 b4 b5 b6 b7
theorem zeroW (w : World) : (zeroValue 41).run Tryz.prog w = .ok (.agg (vcs none 0 0 M.zero8).toArray) w := by kernel_rfl
theorem undW : Tryz.prog.underlying 41 = some (.struct (Tryz.prog.fieldsOf 41)) := by kernel_rfl
theorem results_w {fn : Func} {p : Tmp} (h : fn.results = #[.cell p 41]) (tmps : Array Value) (w : World) (g : Nat) (D : Option Addr) (n cp : Nat) (t : List Int)
    (hp : tmps.getD p undef = .pointer (some ⟨g, 0, none⟩)) (hat : Blk w g 41 (vcs D n cp t)) (hl : t.length = 8) :
    (results fn tmps).run Tryz.prog w = .ok (.agg (vcs D n cp t).toArray) w := by
  have h1 := run_loadVar_row (P := Tryz.prog) w g 41 41 (vcs D n cp t).toArray (0, 0) _ hat undW rfl (by rw [List.size_toArray]; exact size_w hl)
  have hp' : tmps[p]?.getD undef = .pointer (some ⟨g, 0, none⟩) := by simpa using hp
  simp [results, h, hp', asAddr, h1]
set_option maxRecDepth 100000 in
set_option maxHeartbeats 4000000 in
theorem of_is_ (A : Option Addr) (n cap : Nat) (a : List Am) (c : Int) (t : List Int) (w : World) (h : RowV w A n cap a) (hl : n ≤ 600) (hc : 0 ≤ c ∧ c < 65536) (ht : Hid (noteT a c = t)) : Calls Tryz.prog 22 #[.slice A n cap, .int .u16 c] w (GivesW w (linesQ a c) t) := by
  obtain ⟨L, hL⟩ : ∃ L, linesQ a c = L := ⟨_, rfl⟩
  have HL := Lib.hid hL
  rw [hL]
  obtain ⟨v, hv⟩ : ∃ v, noteV (onC c a) c = v := ⟨_, rfl⟩
  have HV := Lib.hid hv
  have OA := Lib.hid h.ok
  have TV := Lib.hid (show v.t = t by rw [← hv, ← ht.out, ← note_onC h.ok]; rfl)
  have TL := Lib.hid (show t.length = 8 by rw [← ht.out]; exact (noteV_ok h.ok c).tl)
  have N0 := Lib.hid (blk_alloc w 41 (vcs none 0 0 M.zero8))
  have B0 := Lib.hid (new_below w (.cells (vcs none 0 0 M.zero8).toArray 41))
  have H0 := Lib.hid (h.below B0.out)
  have hz := zeroW
  have hz2 := zero23
  clear h ht hL hv
  go_enter Tryz.func22, Tryz.ntmps22
  go_wp2_with fail
  refine (only_is A n cap a c _ H0.out (by omega)).mono ?_
  rintro e w4 ⟨⟨A4, n4, cap4, rfl, r4, -⟩, b4⟩
  have R4 := Lib.hid r4
  have L4 := Lib.hid (show n4 ≤ 600 by have h1 := r4.len; have h2 := onC_len c a; have h3 := H0.out.len; omega)
  have B4 := Lib.hid (step_ B0.out b4)
  have N4 := Lib.hid (N0.out.below b4)
  clear r4 b4 N0 H0
  go_wp2_with fail
  refine (get_is A4 n4 cap4 (onC c a) c v _ R4.out L4.out hc HV).mono ?_
  rintro e w1 ⟨rfl, b1⟩
  rw [TV.out]
  have B1 := Lib.hid (step_ B4.out b1)
  have N1 := Lib.hid (N4.out.below b1)
  have H1 := Lib.hid (R4.out.below b1)
  have GT := Lib.hid N1.out.lt
  have Z1 := Lib.hid (blk_alloc w1 25 (nmL M.zero8))
  clear b1 N4 R4
  go_wp2_with (refine wpList_store_cs rfl 25 _ _ rfl w1.heap.size (nmL M.zero8) (nmL t) rfl rfl Z1.out (by unfold nmL; rw [List.length_map, List.length_map, TL.out]; rfl) (size_nmL TL.out) (nm_one t) ?_; intro w2 N2 O2)
  have NE := Lib.hid (show w1.heap.size ≠ w.heap.size by have := GT.out; omega)
  have BX := Lib.hid (box_below O2.out)
  have B2 := Lib.hid (B1.out.trans (BX.out.mono B1.out.size))
  have N3 := Lib.hid (N1.out.below BX.out)
  have R2 := Lib.hid (H1.out.below BX.out)
  have S0 := Lib.hid (only_drew w.heap.size w2)
  have GS := Lib.hid (show w.heap.size < w2.heap.size by have h1 := B2.out.size; have h2 := N3.out.lt; exact h2)
  refine wp_region_noPanic ?_
  refine wp_region_held_drew (S := fun W => Only w.heap.size w2 W) (by kernel_rfl) S0.out (fun _ => ?_)
  refine tkm 0 rfl S0.out ?_; try simp only [Act.put, stA, stZ, stS]
  refine tkm 1 rfl S0.out ?_; try simp only [Act.put, stA, stZ, stS]
  refine tky 3 (.agg (nmL t).toArray) rfl (yieldsIf_load_mid (by rfl) 25 (.tmp 6) rfl (w1.heap.size) 0 rfl (nmL t) _ (fun W hW => (N2.out.only hW NE.out).range) Tryz.underlying25 rfl (size_nmL TL.out)) S0.out ?_; try simp only [Act.put, stA, stZ, stS]
  refine rdy [2] ?_
  refine AllReadyH.cons (arR rfl) (fun K hK => ?_) AllReadyH.nil
  go_simp
  refine (lines_is A4 n4 cap4 (onC c a) c _ (R2.out.below (below_drew (Below.refl _ _))) L4.out).mono ?_
  rintro e w5 ⟨⟨v, rfl, o5⟩, b5⟩
  rw [lines_onC OA.out, HL.out] at o5
  obtain ⟨D, cp, rfl⟩ := o5.shape
  have O5 := Lib.hid o5
  have S5 := Lib.hid (only_below S0.out b5 (Nat.le_refl _))
  have M5 := Lib.hid ((N3.out.below (below_drew (Below.refl _ _))).below b5)
  have ZS := Lib.hid (show w2.heap.size ≤ w5.heap.size from b5.size)
  clear o5 b5
  go_wp2_with fail
  refine hK.out _ _ S5.out (fun _ => ?_)
  clear hK K
  try simp only [Act.put, stA, stZ, stS]
  refine tkv 4 (.agg (vcs D L.length cp t).toArray) rfl (fun W hW => exec_build 41 _ rfl [(0, .slice D L.length cp), (1, .agg (nm t))] rfl _ (built_w D L.length cp TL.out)) S5.out ?_; try simp only [Act.put, stA, stZ, stS]
  refine rdy [5] ?_
  refine ready_store_cs (arR rfl) rfl 41 (.tmp 4) (.tmp 23) rfl w.heap.size (vcs none 0 0 M.zero8) (vcs D L.length cp t) rfl rfl M5.out (by rw [vcs_len rfl, vcs_len TL.out]) (size_w TL.out) (vcs_one D L.length cp t) (fun W6 N6 Q6 => ?_) AllReadyH.nil
  have M6 := Lib.hid N6
  have S6 := Lib.hid (S5.out.trans Q6)
  have O6 := Lib.hid (O5.out.only Q6 (.inr (O5.out.geS2 GS.out)))
  clear N6 Q6
  refine ⟨S6.out, ?_⟩
  try simp only [Act.put]
  refine wpAnyH_done (by kernel_rfl) ?_ _
  refine NoPanic.normal ?_
  go_wp2_with fail
  refine bodyPost_ret (results_w rfl _ _ w.heap.size D L.length cp t rfl M6.out TL.out) rfl ?_
  exact ⟨⟨_, _, _, rfl, O6.out.down B2.out.size⟩, B2.out.trans (S6.out.below (Nat.le_refl _) B2.out.size)⟩
end Go.Proofs.YtijfbhdbfplghaaGreat
namespace Go.Proofs.YtijfbhdbfplghaaGreat
open Go.RowKit Go.Shelf
attribute [local go_sem] Oper.semAt_some
end Go.Proofs.YtijfbhdbfplghaaGreat
