/- alive, and the walks of the laws NoteGets, NotePuts and NoteLast. Written by wip/tools/nlaw_r16.py. -/
import Derived.Test.YtgggjhbijnndhaaNRef
import Derived.Test.YtgggjhbijnndhaaRefJoinR
namespace Go.Proofs.Ytgggjhbijnndhaa
open Go.RowKit

theorem wpList_store_nmz {ops : Array Oper} {rest : List Oper} {op : Oper} {a : Act} {w : World} {Q : Exit → Act → World → Prop} (hgd : op.guard = none) (x y : Operand) (ho : op.op = .store 26 x y) (g : Nat) (t : List Int) (hx : a.eval x = .pointer (some ⟨g, 0, none⟩)) (hy : a.eval y = .agg (nm t)) (hb : Blk w g 26 (nmL M.zero8)) (ht : t.length = 8)
    (h : ∀ w', Hid (Blk w' g 26 (nmL t)) → Hid (Only g w w') → wpList Try.prog ops Q rest (a.put op.dst undef) w') : wpList Try.prog ops Q (op :: rest) a w :=
  wpList_store_cs hgd 26 x y ho g (nmL M.zero8) (nmL t) hx hy hb (by unfold nmL; rw [List.length_map, List.length_map, ht]; rfl) (size_nmL ht) (nm_one t) h
theorem ready_alloc26 {ops : Array Oper} {Q : Exit → Act → World → Prop} {md : Region.Mode} {S : World → Prop} {fuel : Nat} {listed : Array Bool} {a : Act} {w : World} {i : Nat} {o : Oper} {rs : List Nat} (ho : ops[i]? = some o) (hg : o.guard = none) (hop : o.op = .alloc 26)
    (h : ∀ g w', g = w.heap.size → Blk w' g 26 (nmL M.zero8) → Below w.heap.size w w' → S w' ∧ wpAnyH Try.prog md ops Q S fuel (listed.setIfInBounds i true) (a.put o.dst (.pointer (some ⟨g, 0, none⟩))) w')
    (hs : AllReadyH Try.prog md ops Q S fuel listed a w rs) : AllReadyH Try.prog md ops Q S fuel listed a w (i :: rs) := by
  refine AllReadyH.cons ho (fun K hK => ?_) hs
  have hw : Region.wanted o (yielded ops a.tmps) = true := by simp [Region.wanted, hg]
  rw [if_pos hw]
  have hz := zero23
  have H := h w.heap.size (w.alloc (.cells (nm M.zero8) 26)) rfl (blk_alloc w 26 (nmL M.zero8)) (new_below w _)
  unfold Oper.wp execOp
  simp [hop, Instr.alloc, hz]
  exact hK.out _ _ H.1 (fun _ => H.2)
theorem exec_add16 {o : Oper} {a : Act} {w : World} (x : Operand) (ho : o.op = .binOp .add 23 x (.const (.int .u16 1)) 23) (n z : Int) (hx : a.eval x = .int .u16 n) (hz : (n + 1) % 65536 = z) :
    (execOp a.eval o).run Try.prog w = .ok (.value (.int .u16 z)) w := by
  unfold execOp
  simp only [ho, hx]
  go_simp
  exact hz
theorem get_at (A : Option Addr) (n cap : Nat) (a : List Am) (c : Int) (t : List Int) (x y : Int) (w : World) (h : RowV w A n cap a) (hn : n ≤ 600) (hc : 0 ≤ c ∧ c < 65536) (hv : Hid ((noteV a c).t = t ∧ vnum (noteV a c) = x ∧ vrep (noteV a c) = y)) :
    Calls Try.prog 7 #[.slice A n cap, .int .u16 c] w fun e w' => e = .returned (.tuple #[.agg (nm t), .int .u32 x, .int .u8 y]) ∧ Below w.heap.size w w' := by
  refine (get_is A n cap a c _ w h hn hc (Lib.hid rfl)).mono ?_
  rintro e w1 ⟨rfl, b1⟩
  rw [hv.out.1, hv.out.2.1, hv.out.2.2]
  exact ⟨rfl, b1⟩
theorem refGet_at (A : Option Addr) (n cap : Nat) (a : List Am) (c : Int) (t : List Int) (x y : Int) (w : World) (h : RowV w A n cap a) (hn : n ≤ 600) (hc : 0 ≤ c ∧ c < 65536) (hv : Hid ((noteV a c).t = t ∧ vnum (noteV a c) = x ∧ vrep (noteV a c) = y)) :
    Calls Try.prog 8 #[.slice A n cap, .int .u16 c] w fun e w' => e = .returned (.tuple #[.agg (nm t), .int .u32 x, .int .u8 y]) ∧ Below w.heap.size w w' := by
  refine (refGet_is A n cap a c _ w h (by omega) hc (Lib.hid rfl)).mono ?_
  rintro e w1 ⟨rfl, b1⟩
  rw [hv.out.1, hv.out.2.1, hv.out.2.2]
  exact ⟨rfl, b1⟩
/-! alive: hi. -/
def hi8 : List Int := [104, 105, 0, 0, 0, 0, 0, 0]
theorem built_hi : Try.prog.built 26 [(0, .int .u8 104), (1, .int .u8 105)] = some (nm hi8) := by kernel_rfl
theorem hi_nok : NOk hi8 := ⟨rfl, fun x hx => by simp [hi8] at hx; omega⟩
def hiA : Am := noteA 1 0 2 hi8
theorem hi_ok : hiA.Ok := noteA_ok (by decide) (by decide) (by decide) hi_nok
theorem hi_st : St [hiA] := one_st hi_ok (noteA_right (by decide) (by decide) (.inr (by decide)))
theorem nil_note : noteV [] 1 = vzero := rfl
theorem nil_num : vnum (noteV [] 1) = 0 := by rw [nil_note]; decide
theorem hi_e : noteE (vnum (noteV [] 1)) 2 hi8 = 0 := by rw [nil_num]; decide
theorem hi_l : putL [] 1 2 hi8 = [hiA] := by unfold putL; rw [if_pos hi_e, nil_num]; rfl
theorem hi_note : noteV [hiA] 1 = ⟨258, hi8⟩ := by
  unfold noteV
  rw [gt_one hi_st, if_pos (show noteK 1 = hiA.k from rfl)]; rfl
theorem hi_carts : notes [hiA] = [1] := by unfold notes; rw [norm_id hi_st]; rfl
theorem hi_puts (w : World) : Calls Try.prog 12 #[.slice none 0 0, .int .u8 2, .int .u16 1, .agg (nm hi8)] w (GivesRN w [hiA] 0) :=
  nput_is none 0 0 [] 2 1 hi8 0 [hiA] w (rowV_nil _) (by omega) hi_nok (by decide) (by decide) (Lib.hid hi_e) (Lib.hid hi_l)
theorem hi_cartL (A : Option Addr) (cap : Nat) (w : World) (h : RowV w A 1 cap [hiA]) : Calls Try.prog 10 #[.slice A 1 cap] w fun e w' => (∃ B c2, e = .returned (.slice B 1 c2)) ∧ Below w.heap.size w w' := by
  refine (carts_is A 1 cap [hiA] [1] w h (by omega) (Lib.hid hi_carts)).mono ?_
  rintro e w1 ⟨⟨v, rfl, ho⟩, b1⟩
  obtain ⟨B, c2, rfl⟩ := ho.shape
  exact ⟨⟨B, c2, rfl⟩, b1⟩
theorem hi_eq : (hi8 == hi8) = true := by decide
set_option maxRecDepth 100000 in
set_option maxHeartbeats 8000000 in
theorem alive_is (w : World) : Calls Try.prog 6 #[] w fun e w' => e = .returned (.bool true) ∧ Below w.heap.size w w' := by
  have Z0 := Lib.hid (blk_alloc w 26 (nmL M.zero8))
  have hz := zero23
  go_enter Try.func6, Try.ntmps6
  go_wp2_with (first
    | refine wpList_build rfl 26 _ rfl [(0, .int .u8 104), (1, .int .u8 105)] rfl _ built_hi ?_
    | (refine wpList_store_nmz rfl _ _ rfl w.heap.size hi8 rfl rfl Z0.out rfl ?_; intro w1 N1 O1; have B1 := Lib.hid (box_below O1.out))
    | refine wpList_load_nm rfl _ rfl w.heap.size 0 hi8 rfl N1.out.range rfl ?_)
  refine (hi_puts _).mono ?_
  rintro e w2 ⟨⟨Aa, na, ca, rfl, ra⟩, b2⟩
  have RA := Lib.hid ra
  have ha : na = 1 := ra.len.symm
  subst ha
  have B2 := Lib.hid (step_ B1.out b2)
  have G2 := Lib.hid (N1.out.below b2)
  clear ra b2 Z0 N1 O1 B1
  go_wp2_with fail
  refine (get_at Aa 1 ca [hiA] 1 hi8 1 2 _ RA.out (by omega) (by decide) (Lib.hid (by rw [hi_note]; decide))).mono ?_
  rintro e w3 ⟨rfl, b3⟩
  have B3 := Lib.hid (step_ B2.out b3)
  have G3 := Lib.hid (G2.out.below b3)
  have R3 := Lib.hid (RA.out.below b3)
  have Z3 := Lib.hid (blk_alloc w3 26 (nmL M.zero8))
  clear b3 G2 RA B2
  go_wp2_with (first
    | (refine wpList_store_nmz rfl _ _ rfl w3.heap.size hi8 rfl rfl Z3.out rfl ?_; intro w4 N4 O4; have B4 := Lib.hid (box_below O4.out); have G4 := Lib.hid (G3.out.below B4.out); have R4 := Lib.hid (R3.out.below B4.out))
    | (refine wanted_on rfl ?_; refine wpList_load_nm rfl _ rfl w.heap.size 0 hi8 rfl G4.out.range rfl ?_)
    | (refine wanted_on rfl ?_; refine wpList_load_nm rfl _ rfl w3.heap.size 0 hi8 rfl N4.out.range rfl ?_)
    | (refine wanted_on rfl ?_; refine wpList_val rfl _ (exec_eq_nm _ _ _ rfl hi8 hi8 rfl rfl rfl rfl) ?_; rw [hi_eq]))
  refine (hi_cartL Aa ca _ R4.out).mono ?_
  rintro e w5 ⟨⟨B, c2, rfl⟩, b5⟩
  have B5 := Lib.hid (step_ (step_ B3.out B4.out) b5)
  clear b5
  go_wp2_with fail
  go_ret
  exact ⟨rfl, B5.out⟩
set_option maxRecDepth 100000 in
set_option maxHeartbeats 16000000 in
theorem noteGets_is (A : Option Addr) (n cap : Nat) (a : List Am) (c : Int) (w : World) (h : RowV w A n cap a) (hcr : 0 ≤ c ∧ c < 65536) :
    Calls Try.prog 3 #[.slice A n cap, .int .u16 c] w fun e w' => e = .returned (.bool true) ∧ Below w.heap.size w w' := by
  have H := Lib.hid h
  have VO := Lib.hid (noteV_ok h.ok c)
  clear h
  by_cases hc : 60 < n
  · have hc' : decide ((60 : Int) < (n : Int)) = true := decide_eq_true (by omega)
    go_enter Try.func3, Try.ntmps3
    go_wp2_with go_skip
    refine (alive_is w).mono ?_
    rintro e wz ⟨rfl, bz⟩
    have WZ := Lib.hid (step_ (Below.refl _ _) bz)
    clear bz
    go_wp2_with go_skip
    go_ret
    exact ⟨rfl, WZ.out⟩
  have hc' : decide ((60 : Int) < (n : Int)) = false := decide_eq_false (by omega)
  obtain ⟨t, ht⟩ : ∃ t, (noteV a c).t = t := ⟨_, rfl⟩
  obtain ⟨nn, hn⟩ : ∃ z, vnum (noteV a c) = z := ⟨_, rfl⟩
  obtain ⟨rr, hr⟩ : ∃ z, vrep (noteV a c) = z := ⟨_, rfl⟩
  obtain ⟨L, hL⟩ : ∃ l, notes a = l := ⟨_, rfl⟩
  have HV := Lib.hid (And.intro ht (And.intro hn hr))
  have HT := Lib.hid (show t.length = 8 by rw [← ht]; exact VO.out.tl)
  have HL := Lib.hid hL
  have LL := Lib.hid (show L.length ≤ 5000 by
    rw [← hL]; unfold notes; rw [List.length_map]
    have := List.length_filter_le (fun x : Am => decide (x.k.s = 4)) (norm a)
    have := norm_len a
    have := H.out.len
    omega)
  have hb1 : (nn == nn) = true := by simp
  have hb2 : (rr == rr) = true := by simp
  have TE := Lib.hid (show (t == t) = true by simp)
  have hz := zero23
  clear ht hn hr hL
  go_enter Try.func3, Try.ntmps3
  go_wp2_with go_skip
  refine (get_at A n cap a c t nn rr _ H.out (by omega) hcr HV).mono ?_
  rintro e w1 ⟨rfl, b1⟩
  have B1 := Lib.hid b1
  have Z1 := Lib.hid (blk_alloc w1 26 (nmL M.zero8))
  clear b1
  go_wp2_with (refine wpList_store_nmz rfl _ _ rfl w1.heap.size t rfl rfl Z1.out HT.out ?_; intro w2 N2 O2; have B2 := Lib.hid (step_ B1.out (box_below O2.out)))
  refine (refGet_at A n cap a c t nn rr _ (H.out.below B2.out) (by omega) hcr HV).mono ?_
  rintro e w3 ⟨rfl, b3⟩
  have B3 := Lib.hid (step_ B2.out b3)
  have N3 := Lib.hid (N2.out.below b3)
  have Z3 := Lib.hid (blk_alloc w3 26 (nmL M.zero8))
  clear b3 N2 O2 Z1 B1
  go_wp2_with (first
    | (refine wpList_store_nmz rfl _ _ rfl w3.heap.size t rfl rfl Z3.out HT.out ?_; intro w4 N4 O4; have X4 := Lib.hid (box_below O4.out); have B4 := Lib.hid (step_ B3.out X4.out); have M4 := Lib.hid (N3.out.below X4.out))
    | (refine wpList_load_nm rfl _ rfl w1.heap.size 0 t rfl M4.out.range HT.out ?_)
    | (refine wpList_load_nm rfl _ rfl w3.heap.size 0 t rfl N4.out.range HT.out ?_)
    | (refine wpList_val rfl _ (exec_eq_nm _ _ _ rfl t t rfl rfl HT.out HT.out) ?_; rw [TE.out]))
  refine (carts_is A n cap a L _ (H.out.below B4.out) (by omega) HL).mono ?_
  rintro e w5 ⟨⟨v5, rfl, o5⟩, b5⟩
  have O5 := Lib.hid o5
  have B5 := Lib.hid (step_ B4.out b5)
  clear o5 b5
  go_wp2_with fail
  refine (refCarts_is A n cap a L _ (H.out.below B5.out) (by omega) HL).mono ?_
  rintro e w6 ⟨⟨v6, rfl, o6⟩, b6⟩
  have O6 := Lib.hid o6
  have P6 := Lib.hid (O5.out.below b6)
  have B6 := Lib.hid (step_ B5.out b6)
  clear o6 b6
  go_wp2_with fail
  refine (same16_is v5 v6 L L true _ P6.out.at_ O6.out.at_ LL.out (Lib.hid (decide_eq_true rfl))).mono ?_
  rintro e w7 ⟨rfl, b7⟩
  have B7 := Lib.hid (step_ B6.out b7)
  clear b7
  go_wp2_with fail
  refine (alive_is w7).mono ?_
  rintro e wz ⟨rfl, bz⟩
  have WZ := Lib.hid (step_ B7.out bz)
  clear bz
  go_wp2_with go_skip
  go_ret
  exact ⟨rfl, WZ.out⟩
/-- The cells of a question. -/
def ask (r c : Int) (m : List Int) : List Value := .int .u8 r :: .int .u16 c :: nmL m
theorem ask_nm {w : World} {g : Nat} {r c : Int} {m : List Int} (h : Blk w g 35 (ask r c m)) : w.rangeAt g 2 (nmL m) := fun j v hv => by
  rw [Nat.add_comm]
  exact h.cell (i := j + 2) hv
theorem arr_0 {w : World} {g : Nat} {x y : Vl} (h : Blk w g 39 (x.cells ++ y.cells)) : w.rangeAt g 0 x.cells := fun j v hv => h.range j v (by rw [List.getElem?_append_left (List.getElem?_eq_some_iff.1 hv).1]; exact hv)
theorem arr_9 {w : World} {g : Nat} {x y : Vl} (h : Blk w g 39 (x.cells ++ y.cells)) (hx : x.t.length = 8) : w.rangeAt g 9 y.cells := fun j v hv => by
  have := h.cell (i := 9 + j) (v := v) (by rw [List.getElem?_append_right (by rw [vcells_len hx]; omega), vcells_len hx, show 9 + j - 9 = j by omega]; exact hv)
  exact this
set_option maxRecDepth 100000 in
set_option maxHeartbeats 16000000 in
theorem notePuts_is (A : Option Addr) (n cap : Nat) (a : List Am) (rep c : Int) (t : List Int) (x y : Vl) (w : World) (h : RowV w A n cap a) (ht : NOk t) (hr : 0 ≤ rep ∧ rep < 256) (hcr : 0 ≤ c ∧ c < 65536) (hx : x.Ok) (hy : y.Ok) :
    Calls Try.prog 4 #[.slice A n cap, .agg (ask rep c t).toArray, .agg (x.cells ++ y.cells).toArray] w fun e w' => e = .returned (.bool true) ∧ Below w.heap.size w w' := by
  have H := Lib.hid h
  have HT := Lib.hid ht
  have HX := Lib.hid hx
  have HY := Lib.hid hy
  clear h ht hx hy
  by_cases hc : 60 < n
  · have hc' : decide ((60 : Int) < (n : Int)) = true := decide_eq_true (by omega)
    go_enter Try.func4, Try.ntmps4
    go_wp2_with (first | go_skip | (refine wpList_box_cs rfl _ rfl (ask rep c t) rfl ?_; intro g1 w1 eg1 G1 b1) | (refine wpList_box_cs rfl _ rfl (x.cells ++ y.cells) rfl ?_; intro g2 w2 eg2 G2 b2; have X2 := Lib.hid (step_ b1.out b2.out); have G12 := Lib.hid (G1.out.below b2.out); have ca0 := G12.out.cell (i := 0) rfl; have ca1 := G12.out.cell (i := 1) rfl; have R12 := Lib.hid (ask_nm G12.out)))
    clear ca0 ca1
    refine (alive_is w2).mono ?_
    rintro e wz ⟨rfl, bz⟩
    have WZ := Lib.hid (step_ X2.out bz)
    clear bz
    go_wp2_with go_skip
    go_ret
    exact ⟨rfl, WZ.out⟩
  have hc' : decide ((60 : Int) < (n : Int)) = false := decide_eq_false (by omega)
  obtain ⟨e0, he⟩ : ∃ z, noteE (vnum (noteV a c)) rep t = z := ⟨_, rfl⟩
  obtain ⟨la, hl⟩ : ∃ z, putL a c rep t = z := ⟨_, rfl⟩
  obtain ⟨bb, hbb⟩ : ∃ b, (!over y x) = b := ⟨_, rfl⟩
  have HE := Lib.hid he
  have HL := Lib.hid hl
  have HB := Lib.hid hbb
  have LA := Lib.hid (show la.length ≤ 1 by rw [← hl]; unfold putL; split <;> simp)
  have hb1 : (e0 == e0) = true := by simp
  have hb2 : (bb == bb) = true := by simp
  clear he hl hbb
  go_enter Try.func4, Try.ntmps4
  go_wp2_with (first | go_skip | (refine wpList_box_cs rfl _ rfl (ask rep c t) rfl ?_; intro g1 w1 eg1 G1 b1) | (refine wpList_box_cs rfl _ rfl (x.cells ++ y.cells) rfl ?_; intro g2 w2 eg2 G2 b2; have X2 := Lib.hid (step_ b1.out b2.out); have G12 := Lib.hid (G1.out.below b2.out); have ca0 := G12.out.cell (i := 0) rfl; have ca1 := G12.out.cell (i := 1) rfl; have R12 := Lib.hid (ask_nm G12.out)) | (refine wpList_load_nm rfl _ rfl g1 2 t rfl R12.out HT.out.1 ?_))
  refine (nput_is A n cap a rep c t e0 la _ (H.out.below X2.out) (by omega) HT.out hcr hr HE HL).mono ?_
  rintro e w3 ⟨⟨Aa, na, ca, rfl, va⟩, b3⟩
  have VA3 := Lib.hid va
  have B3 := Lib.hid (step_ X2.out b3)
  have G13 := Lib.hid (G12.out.below b3)
  have G23 := Lib.hid (G2.out.below b3)
  have cb0 := G13.out.cell (i := 0) rfl
  have cb1 := G13.out.cell (i := 1) rfl
  have R13 := Lib.hid (ask_nm G13.out)
  clear va b3 ca0 ca1 R12 G12 G2 X2
  go_wp2_with (refine wpList_load_nm rfl _ rfl g1 2 t rfl R13.out HT.out.1 ?_)
  refine (nrefPut_is A n cap a rep c t e0 la _ (H.out.below B3.out) (by omega) HT.out hcr hr HE HL).mono ?_
  rintro e w4 ⟨⟨Ab, nb, cb, rfl, vb⟩, b4⟩
  have VA := Lib.hid (VA3.out.below b4)
  have VB := Lib.hid vb
  have B4 := Lib.hid (step_ B3.out b4)
  have GY := Lib.hid (G23.out.below b4)
  clear vb b4 cb0 cb1 R13 G13 G23 B3 VA3
  go_wp2_with fail
  have S0 := Lib.hid (show Below w4.heap.size w4 w4.drew from below_drew (Below.refl _ _))
  refine wp_region_noPanic ?_
  refine wp_region_held_drew (S := fun W => Below w4.heap.size w4 W) (by kernel_rfl) S0.out (fun _ => ?_)
  refine wpAnyH_take (i := 0) (oi := { dst := some 37, op := Go.Op.move (Go.Operand.tmp 7), type := 22, pos := _, after := #[], guard := none }) (v := ?_) rfl (by kernel_rfl) (by kernel_rfl) (by kernel_rfl) (fun _ _ _ h => h) (Or.inl ⟨by rfl, ?_⟩) S0.out ?_
  rotate_left
  · intro W hW; (go_simp; try with_reducible rfl)
  try simp only [Act.put, List.setIfInBounds_toArray, List.set_cons_zero, List.set_cons_succ]
  refine wpAnyH_take (i := 1) (oi := { dst := some 38, op := Go.Op.move (Go.Operand.tmp 9), type := 22, pos := _, after := #[], guard := none }) (v := ?_) rfl (by kernel_rfl) (by kernel_rfl) (by kernel_rfl) (fun _ _ _ h => h) (Or.inl ⟨by rfl, ?_⟩) S0.out ?_
  rotate_left
  · intro W hW; (go_simp; try with_reducible rfl)
  try simp only [Act.put, List.setIfInBounds_toArray, List.set_cons_zero, List.set_cons_succ]
  refine wpAnyH_ready (rs := [2]) (by kernel_rfl) (by simp) ?_
  refine AllReadyH.cons (o := { dst := some 39, op := Go.Op.call { callee := Go.Callee.value (Go.Operand.func 14), args := #[Go.Operand.tmp 37, Go.Operand.tmp 38], argTypes := #[22, 22] }, type := 4, pos := _, after := #[{ on := 0, ground := Go.Ground.data }, { on := 1, ground := Go.Ground.data }], guard := none }) rfl (fun K hK => ?_) AllReadyH.nil
  go_simp
  refine (rows_is Aa Ab na nb ca cb la la true _ (VA.out.below S0.out) (VB.out.below S0.out) (by have := VA.out.len; have := LA.out; omega) (Lib.hid (decide_eq_true rfl))).mono ?_
  rintro e w1 ⟨rfl, b1⟩
  have S1 := Lib.hid (step_ S0.out b1)
  clear b1
  go_wp2_with fail
  refine hK.out _ _ S1.out (fun _ => ?_)
  clear hK K
  try simp only [Act.put, List.setIfInBounds_toArray, List.set_cons_zero, List.set_cons_succ]
  refine wpAnyH_take (i := 3) (oi := { dst := some 40, op := Go.Op.move (Go.Operand.tmp 39), type := 4, pos := _, after := #[{ on := 2, ground := Go.Ground.data }, { on := 2, ground := Go.Ground.chain }], guard := none }) (v := ?_) rfl (by kernel_rfl) (by kernel_rfl) (by kernel_rfl) (fun _ _ _ h => h) (Or.inl ⟨by rfl, ?_⟩) S1.out ?_
  rotate_left
  · intro W hW; (go_simp; try with_reducible rfl)
  try simp only [Act.put, List.setIfInBounds_toArray, List.set_cons_zero, List.set_cons_succ]
  refine wpAnyH_take (i := 4) (oi := { dst := some 41, op := Go.Op.move (Go.Operand.tmp 8), type := 40, pos := _, after := #[{ on := 3, ground := Go.Ground.guard }], guard := some (3, true) }) (v := ?_) rfl (by kernel_rfl) (by kernel_rfl) (by kernel_rfl) (fun _ _ _ h => h) (Or.inl ⟨by rfl, ?_⟩) S1.out ?_
  rotate_left
  · intro W hW; (go_simp; try with_reducible rfl)
  try simp only [Act.put, List.setIfInBounds_toArray, List.set_cons_zero, List.set_cons_succ]
  refine wpAnyH_take (i := 5) (oi := { dst := some 42, op := Go.Op.move (Go.Operand.tmp 10), type := 40, pos := _, after := #[{ on := 3, ground := Go.Ground.guard }], guard := some (3, true) }) (v := ?_) rfl (by kernel_rfl) (by kernel_rfl) (by kernel_rfl) (fun _ _ _ h => h) (Or.inl ⟨by rfl, ?_⟩) S1.out ?_
  rotate_left
  · intro W hW; (go_simp; try with_reducible rfl)
  try simp only [Act.put, List.setIfInBounds_toArray, List.set_cons_zero, List.set_cons_succ]
  refine wpAnyH_take (i := 6) (oi := { dst := some 43, op := Go.Op.binOp Go.BinOp.eql 40 (Go.Operand.tmp 41) (Go.Operand.tmp 42) 40, type := 4, pos := _, after := #[{ on := 4, ground := Go.Ground.data }, { on := 5, ground := Go.Ground.data }, { on := 3, ground := Go.Ground.guard }], guard := some (3, true) }) (v := ?_) rfl (by kernel_rfl) (by kernel_rfl) (by kernel_rfl) (fun _ _ _ h => h) (Or.inl ⟨by rfl, ?_⟩) S1.out ?_
  rotate_left
  · intro W hW; (go_simp; try with_reducible rfl)
  try simp only [Act.put, List.setIfInBounds_toArray, List.set_cons_zero, List.set_cons_succ]
  refine wpAnyH_take (i := 7) (oi := { dst := some 44, op := Go.Op.pick (Go.Operand.tmp 40) (Go.Operand.tmp 43) (Go.Operand.const (Go.Value.bool false)), type := 4, pos := _, after := #[{ on := 3, ground := Go.Ground.data }, { on := 6, ground := Go.Ground.data }], guard := none }) (v := ?_) rfl (by kernel_rfl) (by kernel_rfl) (by kernel_rfl) (fun _ _ _ h => h) (Or.inl ⟨by rfl, ?_⟩) S1.out ?_
  rotate_left
  · intro W hW; (go_simp; try with_reducible rfl)
  try simp only [Act.put, List.setIfInBounds_toArray, List.set_cons_zero, List.set_cons_succ]
  refine wpAnyH_take (i := 8) (oi := { dst := some 45, op := Go.Op.move (Go.Operand.tmp 44), type := 4, pos := _, after := #[{ on := 7, ground := Go.Ground.data }, { on := 3, ground := Go.Ground.chain }], guard := none }) (v := ?_) rfl (by kernel_rfl) (by kernel_rfl) (by kernel_rfl) (fun _ _ _ h => h) (Or.inl ⟨by rfl, ?_⟩) S1.out ?_
  rotate_left
  · intro W hW; (go_simp; try with_reducible rfl)
  try simp only [Act.put, List.setIfInBounds_toArray, List.set_cons_zero, List.set_cons_succ]
  refine wpAnyH_take (i := 9) (oi := { dst := some 46, op := Go.Op.indexAddr 39 (Go.Operand.tmp 5) (Go.Operand.const (Go.Value.int Go.IntKind.i64 0)), type := 0, pos := _, after := #[{ on := 8, ground := Go.Ground.guard }], guard := some (8, true) }) (v := ?_) rfl (by kernel_rfl) (by kernel_rfl) (by kernel_rfl) (fun _ _ _ h => h) (Or.inl ⟨by rfl, ?_⟩) S1.out ?_
  rotate_left
  · intro W hW; (go_simp; try with_reducible rfl)
  try simp only [Act.put, List.setIfInBounds_toArray, List.set_cons_zero, List.set_cons_succ]
  refine wpAnyH_take (i := 10) (oi := { dst := some 47, op := Go.Op.load 38 (Go.Operand.tmp 46), type := 38, pos := _, after := #[{ on := 9, ground := Go.Ground.data }, { on := 8, ground := Go.Ground.guard }], guard := some (8, true) }) (v := .agg (x.cells).toArray) rfl (by kernel_rfl) (by kernel_rfl) (by kernel_rfl) (fun _ _ _ h => h) (yieldsIf_load_mid (by rfl) 38 (.tmp 46) rfl g2 0 rfl (x.cells) _ (fun W hW => arr_0 (GY.out.below hW)) Try.underlying38 rfl (size30 HX.out.tl)) S1.out ?_
  try simp only [Act.put, List.setIfInBounds_toArray, List.set_cons_zero, List.set_cons_succ]
  refine wpAnyH_take (i := 11) (oi := { dst := some 48, op := Go.Op.indexAddr 39 (Go.Operand.tmp 5) (Go.Operand.const (Go.Value.int Go.IntKind.i64 1)), type := 0, pos := _, after := #[{ on := 8, ground := Go.Ground.guard }], guard := some (8, true) }) (v := ?_) rfl (by kernel_rfl) (by kernel_rfl) (by kernel_rfl) (fun _ _ _ h => h) (Or.inl ⟨by rfl, ?_⟩) S1.out ?_
  rotate_left
  · intro W hW; (go_simp; try with_reducible rfl)
  try simp only [Act.put, List.setIfInBounds_toArray, List.set_cons_zero, List.set_cons_succ]
  refine wpAnyH_take (i := 12) (oi := { dst := some 49, op := Go.Op.load 38 (Go.Operand.tmp 48), type := 38, pos := _, after := #[{ on := 11, ground := Go.Ground.data }, { on := 8, ground := Go.Ground.guard }], guard := some (8, true) }) (v := .agg (y.cells).toArray) rfl (by kernel_rfl) (by kernel_rfl) (by kernel_rfl) (fun _ _ _ h => h) (yieldsIf_load_mid (by rfl) 38 (.tmp 48) rfl g2 9 rfl (y.cells) _ (fun W hW => arr_9 (GY.out.below hW) HX.out.tl) Try.underlying38 rfl (size30 HY.out.tl)) S1.out ?_
  try simp only [Act.put, List.setIfInBounds_toArray, List.set_cons_zero, List.set_cons_succ]
  refine wpAnyH_take (i := 14) (oi := { dst := some 51, op := Go.Op.indexAddr 39 (Go.Operand.tmp 5) (Go.Operand.const (Go.Value.int Go.IntKind.i64 0)), type := 0, pos := _, after := #[{ on := 8, ground := Go.Ground.guard }], guard := some (8, true) }) (v := ?_) rfl (by kernel_rfl) (by kernel_rfl) (by kernel_rfl) (fun _ _ _ h => h) (Or.inl ⟨by rfl, ?_⟩) S1.out ?_
  rotate_left
  · intro W hW; (go_simp; try with_reducible rfl)
  try simp only [Act.put, List.setIfInBounds_toArray, List.set_cons_zero, List.set_cons_succ]
  refine wpAnyH_take (i := 15) (oi := { dst := some 52, op := Go.Op.load 38 (Go.Operand.tmp 51), type := 38, pos := _, after := #[{ on := 14, ground := Go.Ground.data }, { on := 8, ground := Go.Ground.guard }], guard := some (8, true) }) (v := .agg (x.cells).toArray) rfl (by kernel_rfl) (by kernel_rfl) (by kernel_rfl) (fun _ _ _ h => h) (yieldsIf_load_mid (by rfl) 38 (.tmp 51) rfl g2 0 rfl (x.cells) _ (fun W hW => arr_0 (GY.out.below hW)) Try.underlying38 rfl (size30 HX.out.tl)) S1.out ?_
  try simp only [Act.put, List.setIfInBounds_toArray, List.set_cons_zero, List.set_cons_succ]
  refine wpAnyH_take (i := 16) (oi := { dst := some 53, op := Go.Op.indexAddr 39 (Go.Operand.tmp 5) (Go.Operand.const (Go.Value.int Go.IntKind.i64 1)), type := 0, pos := _, after := #[{ on := 8, ground := Go.Ground.guard }], guard := some (8, true) }) (v := ?_) rfl (by kernel_rfl) (by kernel_rfl) (by kernel_rfl) (fun _ _ _ h => h) (Or.inl ⟨by rfl, ?_⟩) S1.out ?_
  rotate_left
  · intro W hW; (go_simp; try with_reducible rfl)
  try simp only [Act.put, List.setIfInBounds_toArray, List.set_cons_zero, List.set_cons_succ]
  refine wpAnyH_take (i := 17) (oi := { dst := some 54, op := Go.Op.load 38 (Go.Operand.tmp 53), type := 38, pos := _, after := #[{ on := 16, ground := Go.Ground.data }, { on := 8, ground := Go.Ground.guard }], guard := some (8, true) }) (v := .agg (y.cells).toArray) rfl (by kernel_rfl) (by kernel_rfl) (by kernel_rfl) (fun _ _ _ h => h) (yieldsIf_load_mid (by rfl) 38 (.tmp 53) rfl g2 9 rfl (y.cells) _ (fun W hW => arr_9 (GY.out.below hW) HX.out.tl) Try.underlying38 rfl (size30 HY.out.tl)) S1.out ?_
  try simp only [Act.put, List.setIfInBounds_toArray, List.set_cons_zero, List.set_cons_succ]
  refine wpAnyH_ready (rs := [13]) (by kernel_rfl) (by simp) ?_
  refine AllReadyH.cons (o := { dst := some 50, op := Go.Op.call { callee := Go.Callee.value (Go.Operand.func 15), args := #[Go.Operand.tmp 47, Go.Operand.tmp 49], argTypes := #[38, 38] }, type := 4, pos := _, after := #[{ on := 10, ground := Go.Ground.data }, { on := 12, ground := Go.Ground.data }, { on := 8, ground := Go.Ground.chain }, { on := 8, ground := Go.Ground.guard }], guard := some (8, true) }) rfl (fun K hK => ?_) AllReadyH.nil
  go_simp
  refine (newer_is x y bb _ HX.out HY.out HB).mono ?_
  rintro e w2 ⟨rfl, b2⟩
  have S2 := Lib.hid (step_ S1.out b2)
  clear b2
  go_wp2_with fail
  refine hK.out _ _ S2.out (fun _ => ?_)
  clear hK K
  try simp only [Act.put, List.setIfInBounds_toArray, List.set_cons_zero, List.set_cons_succ]
  refine wpAnyH_ready (rs := [18]) (by kernel_rfl) (by simp) ?_
  refine AllReadyH.cons (o := { dst := some 55, op := Go.Op.call { callee := Go.Callee.value (Go.Operand.func 16), args := #[Go.Operand.tmp 52, Go.Operand.tmp 54], argTypes := #[38, 38] }, type := 4, pos := _, after := #[{ on := 15, ground := Go.Ground.data }, { on := 17, ground := Go.Ground.data }, { on := 13, ground := Go.Ground.chain }, { on := 8, ground := Go.Ground.guard }], guard := some (8, true) }) rfl (fun K hK => ?_) AllReadyH.nil
  go_simp
  refine (refNewer_is x y bb _ HX.out HY.out HB).mono ?_
  rintro e w3 ⟨rfl, b3⟩
  have S3 := Lib.hid (step_ S2.out b3)
  clear b3
  go_wp2_with fail
  refine hK.out _ _ S3.out (fun _ => ?_)
  clear hK K
  try simp only [Act.put, List.setIfInBounds_toArray, List.set_cons_zero, List.set_cons_succ]
  refine wpAnyH_take (i := 19) (oi := { dst := some 56, op := Go.Op.binOp Go.BinOp.eql 4 (Go.Operand.tmp 50) (Go.Operand.tmp 55) 4, type := 4, pos := _, after := #[{ on := 13, ground := Go.Ground.data }, { on := 18, ground := Go.Ground.data }, { on := 8, ground := Go.Ground.guard }], guard := some (8, true) }) (v := ?_) rfl (by kernel_rfl) (by kernel_rfl) (by kernel_rfl) (fun _ _ _ h => h) (Or.inl ⟨by rfl, ?_⟩) S3.out ?_
  rotate_left
  · intro W hW; (go_simp; try with_reducible rfl)
  try simp only [Act.put, List.setIfInBounds_toArray, List.set_cons_zero, List.set_cons_succ]
  refine wpAnyH_take (i := 20) (oi := { dst := some 57, op := Go.Op.pick (Go.Operand.tmp 45) (Go.Operand.tmp 56) (Go.Operand.const (Go.Value.bool false)), type := 4, pos := _, after := #[{ on := 8, ground := Go.Ground.data }, { on := 19, ground := Go.Ground.data }], guard := none }) (v := ?_) rfl (by kernel_rfl) (by kernel_rfl) (by kernel_rfl) (fun _ _ _ h => h) (Or.inl ⟨by rfl, ?_⟩) S3.out ?_
  rotate_left
  · intro W hW; (go_simp; try with_reducible rfl)
  try simp only [Act.put, List.setIfInBounds_toArray, List.set_cons_zero, List.set_cons_succ]
  refine wpAnyH_take (i := 21) (oi := { dst := some 58, op := Go.Op.move (Go.Operand.tmp 57), type := 4, pos := _, after := #[{ on := 20, ground := Go.Ground.data }, { on := 18, ground := Go.Ground.chain }], guard := none }) (v := ?_) rfl (by kernel_rfl) (by kernel_rfl) (by kernel_rfl) (fun _ _ _ h => h) (Or.inl ⟨by rfl, ?_⟩) S3.out ?_
  rotate_left
  · intro W hW; (go_simp; try with_reducible rfl)
  try simp only [Act.put, List.setIfInBounds_toArray, List.set_cons_zero, List.set_cons_succ]
  refine wpAnyH_ready (rs := [22]) (by kernel_rfl) (by simp) ?_
  refine AllReadyH.cons (o := { dst := some 59, op := Go.Op.call { callee := Go.Callee.value (Go.Operand.func 6), args := #[], argTypes := #[] }, type := 4, pos := _, after := #[{ on := 21, ground := Go.Ground.chain }, { on := 21, ground := Go.Ground.guard }], guard := some (21, true) }) rfl (fun K hK => ?_) AllReadyH.nil
  go_simp
  refine (alive_is _).mono ?_
  rintro e w4 ⟨rfl, b4⟩
  have S4 := Lib.hid (step_ S3.out b4)
  clear b4
  go_wp2_with fail
  refine hK.out _ _ S4.out (fun _ => ?_)
  clear hK K
  try simp only [Act.put, List.setIfInBounds_toArray, List.set_cons_zero, List.set_cons_succ]
  refine wpAnyH_take (i := 23) (oi := { dst := some 60, op := Go.Op.pick (Go.Operand.tmp 58) (Go.Operand.tmp 59) (Go.Operand.const (Go.Value.bool false)), type := 4, pos := _, after := #[{ on := 21, ground := Go.Ground.data }, { on := 22, ground := Go.Ground.data }], guard := none }) (v := ?_) rfl (by kernel_rfl) (by kernel_rfl) (by kernel_rfl) (fun _ _ _ h => h) (Or.inl ⟨by rfl, ?_⟩) S4.out ?_
  rotate_left
  · intro W hW; (go_simp; try with_reducible rfl)
  try simp only [Act.put, List.setIfInBounds_toArray, List.set_cons_zero, List.set_cons_succ]
  refine wpAnyH_take (i := 24) (oi := { dst := some 6, op := Go.Op.assign (Go.Operand.tmp 60), type := 4, pos := _, after := #[{ on := 23, ground := Go.Ground.data }, { on := 22, ground := Go.Ground.chain }, { on := 0, ground := Go.Ground.phase }, { on := 1, ground := Go.Ground.phase }, { on := 2, ground := Go.Ground.phase }, { on := 3, ground := Go.Ground.phase }, { on := 4, ground := Go.Ground.phase }, { on := 5, ground := Go.Ground.phase }, { on := 6, ground := Go.Ground.phase }, { on := 7, ground := Go.Ground.phase }, { on := 8, ground := Go.Ground.phase }, { on := 9, ground := Go.Ground.phase }, { on := 10, ground := Go.Ground.phase }, { on := 11, ground := Go.Ground.phase }, { on := 12, ground := Go.Ground.phase }, { on := 13, ground := Go.Ground.phase }, { on := 14, ground := Go.Ground.phase }, { on := 15, ground := Go.Ground.phase }, { on := 16, ground := Go.Ground.phase }, { on := 17, ground := Go.Ground.phase }, { on := 18, ground := Go.Ground.phase }, { on := 19, ground := Go.Ground.phase }, { on := 20, ground := Go.Ground.phase }, { on := 21, ground := Go.Ground.phase }, { on := 22, ground := Go.Ground.phase }, { on := 23, ground := Go.Ground.phase }], guard := none }) (v := ?_) rfl (by kernel_rfl) (by kernel_rfl) (by kernel_rfl) (fun _ _ _ h => h) (Or.inl ⟨by rfl, ?_⟩) S4.out ?_
  rotate_left
  · intro W hW; (go_simp; try with_reducible rfl)
  try simp only [Act.put, List.setIfInBounds_toArray, List.set_cons_zero, List.set_cons_succ]
  refine wpAnyH_done (by kernel_rfl) ?_ _
  refine NoPanic.normal ?_
  go_wp2_with fail
  go_ret
  exact ⟨rfl, step_ B4.out S4.out⟩
end Go.Proofs.Ytgggjhbijnndhaa
