/- Get, Carts and Same of the reference. Written by wip/tools/nref_r16.py. fault, Put and Newer of package note. Written by wip/tools/nput_r16.py. Put of the reference. Written by wip/tools/nrput_r16.py. -/
import Derived.Test.YtgggjhbijnndhaaNGet
import Derived.Test.YtgggjhbijnndhaaLoadsN
import Derived.Test.YtgggjhbijnndhaaFindsB
import Derived.Test.YtgggjhbijnndhaaSameT
import Derived.Test.YtgggjhbijnndhaaAOver
import Derived.Test.YtgggjhbijnndhaaASmall
import Derived.Test.YtgggjhbijnndhaaOf
namespace Go.Proofs.Ytgggjhbijnndhaa
open Go.RowKit

set_option maxRecDepth 100000 in
set_option maxHeartbeats 4000000 in
theorem refGet_is (A : Option Addr) (n cap : Nat) (a : List Am) (c : Int) (v : Vl) (w : World) (h : RowV w A n cap a) (hn : n ≤ 1000) (hc : 0 ≤ c ∧ c < 65536) (hv : Hid (noteV a c = v)) : Calls Try.prog 8 #[.slice A n cap, .int .u16 c] w (GivesN w v) := by
  have VO := Lib.hid (show v.Ok by rw [← hv.out]; exact noteV_ok h.ok c)
  have HV := Lib.hid (show (gt a (noteK c)).getD vzero = v from hv.out)
  have N0 := Lib.hid (blk_alloc w 26 (nmL M.zero8))
  have B0 := Lib.hid (new_below w (.cells (nm M.zero8) 26))
  have H0 := Lib.hid (h.below B0.out)
  have hz := zero23
  have hz2 := zero30
  clear h hv
  go_enter Try.func8, Try.ntmps8
  go_wp2_with (refine wpList_build rfl 55 _ rfl [(0, .int .u8 4), (1, .int .u16 c)] rfl _ (built_nk c) ?_)
  refine (refFind_is A n cap a (noteK c) (gt a (noteK c)) _ H0.out (noteK_ok hc) hn (Lib.hid rfl)).mono ?_
  rintro e w1 ⟨he, b1⟩
  rw [HV.out] at he
  subst he
  have B1 := Lib.hid (step_ B0.out b1)
  have N1 := Lib.hid (N0.out.below b1)
  have LT := Lib.hid N1.out.lt
  have Z1 := Lib.hid (blk_alloc w1 38 vzero.cells)
  clear b1 N0 H0
  go_wp2_with (refine wpList_store_vl rfl _ _ rfl w1.heap.size vzero v rfl rfl Z1.out rfl VO.out.tl ?_; intro w2 N2 O2)
  have NE := Lib.hid (show w1.heap.size ≠ w.heap.size by have := LT.out; omega)
  have BX := Lib.hid (box_below O2.out)
  have B2 := Lib.hid (B1.out.trans (BX.out.mono B1.out.size))
  have N4 := Lib.hid (N1.out.below BX.out)
  have S0 := Lib.hid (only_drew w.heap.size w2)
  refine wp_region_noPanic ?_
  refine wp_region_held_drew (S := fun W => Only w.heap.size w2 W) (by kernel_rfl) S0.out (fun _ => ?_)
  refine wpAnyH_take (i := 0) (oi := { dst := some 16, op := Go.Op.fieldAddr 38 (Go.Operand.tmp 7) 1, type := 0, pos := _, after := #[], guard := none }) (v := ?_) rfl (by kernel_rfl) (by kernel_rfl) (by kernel_rfl) (fun _ _ _ h => h) (Or.inl ⟨by rfl, ?_⟩) S0.out ?_
  rotate_left
  · intro W hW; (go_simp; try with_reducible rfl)
  try simp only [Act.put, List.setIfInBounds_toArray, List.set_cons_zero, List.set_cons_succ]
  refine wpAnyH_take (i := 1) (oi := { dst := some 17, op := Go.Op.load 26 (Go.Operand.tmp 16), type := 26, pos := _, after := #[{ on := 0, ground := Go.Ground.data }], guard := none }) (v := .agg (nmL v.t).toArray) rfl (by kernel_rfl) (by kernel_rfl) (by kernel_rfl) (fun _ _ _ h => h) (yieldsIf_load_mid (by rfl) 26 (.tmp 16) rfl w1.heap.size 1 rfl (nmL v.t) _ (fun W hW => (N2.out.only hW NE.out).vnm) Try.underlying26 rfl (size_nmL VO.out.tl)) S0.out ?_
  try simp only [Act.put, List.setIfInBounds_toArray, List.set_cons_zero, List.set_cons_succ]
  refine wpAnyH_take (i := 2) (oi := { dst := some 18, op := Go.Op.fieldAddr 38 (Go.Operand.tmp 7) 0, type := 0, pos := _, after := #[{ on := 10, ground := Go.Ground.gcOnly Go.Departure.lateStores }], guard := none }) (v := ?_) rfl (by kernel_rfl) (by kernel_rfl) (by kernel_rfl) (fun _ _ _ h => h) (Or.inl ⟨by rfl, ?_⟩) S0.out ?_
  rotate_left
  · intro W hW; (go_simp; try with_reducible rfl)
  try simp only [Act.put, List.setIfInBounds_toArray, List.set_cons_zero, List.set_cons_succ]
  refine wpAnyH_take (i := 3) (oi := { dst := some 19, op := Go.Op.load 36 (Go.Operand.tmp 18), type := 36, pos := _, after := #[{ on := 2, ground := Go.Ground.data }, { on := 10, ground := Go.Ground.gcOnly Go.Departure.lateStores }], guard := none }) (v := .int .u64 v.n) rfl (by kernel_rfl) (by kernel_rfl) (by kernel_rfl) (fun _ _ _ h => h) (Or.inl ⟨by rfl, fun W hW => exec_load_i Try.underlying36 (.tmp 18) rfl w1.heap.size 0 v.n rfl ((N2.out.only hW NE.out).cell (vc0 v))⟩) S0.out ?_
  try simp only [Act.put, List.setIfInBounds_toArray, List.set_cons_zero, List.set_cons_succ]
  refine wpAnyH_take (i := 4) (oi := { dst := some 20, op := Go.Op.binOp Go.BinOp.quo 36 (Go.Operand.tmp 19) (Go.Operand.const (Go.Value.int Go.IntKind.u64 256)) 36, type := 36, pos := _, after := #[{ on := 3, ground := Go.Ground.data }, { on := 10, ground := Go.Ground.gcOnly Go.Departure.lateStores }], guard := none }) (v := .int .u64 (v.n / 256)) rfl (by kernel_rfl) (by kernel_rfl) (by kernel_rfl) (fun _ _ _ h => h) (Or.inl ⟨by rfl, fun W hW => exec_quo256 (.tmp 19) rfl v.n rfl VO.out.n0 VO.out.n1⟩) S0.out ?_
  try simp only [Act.put, List.setIfInBounds_toArray, List.set_cons_zero, List.set_cons_succ]
  refine wpAnyH_take (i := 5) (oi := { dst := some 21, op := Go.Op.convert 36 27 (Go.Operand.tmp 20), type := 27, pos := _, after := #[{ on := 4, ground := Go.Ground.data }, { on := 10, ground := Go.Ground.gcOnly Go.Departure.lateStores }], guard := none }) (v := .int .u32 (v.n / 256 % 4294967296)) rfl (by kernel_rfl) (by kernel_rfl) (by kernel_rfl) (fun _ _ _ h => h) (Or.inl ⟨by rfl, fun W hW => exec_conv32 (.tmp 20) rfl (v.n / 256) rfl⟩) S0.out ?_
  try simp only [Act.put, List.setIfInBounds_toArray, List.set_cons_zero, List.set_cons_succ]
  refine wpAnyH_take (i := 6) (oi := { dst := some 22, op := Go.Op.fieldAddr 38 (Go.Operand.tmp 7) 0, type := 0, pos := _, after := #[{ on := 11, ground := Go.Ground.gcOnly Go.Departure.lateStores }], guard := none }) (v := ?_) rfl (by kernel_rfl) (by kernel_rfl) (by kernel_rfl) (fun _ _ _ h => h) (Or.inl ⟨by rfl, ?_⟩) S0.out ?_
  rotate_left
  · intro W hW; (go_simp; try with_reducible rfl)
  try simp only [Act.put, List.setIfInBounds_toArray, List.set_cons_zero, List.set_cons_succ]
  refine wpAnyH_take (i := 7) (oi := { dst := some 23, op := Go.Op.load 36 (Go.Operand.tmp 22), type := 36, pos := _, after := #[{ on := 6, ground := Go.Ground.data }, { on := 11, ground := Go.Ground.gcOnly Go.Departure.lateStores }], guard := none }) (v := .int .u64 v.n) rfl (by kernel_rfl) (by kernel_rfl) (by kernel_rfl) (fun _ _ _ h => h) (Or.inl ⟨by rfl, fun W hW => exec_load_i Try.underlying36 (.tmp 22) rfl w1.heap.size 0 v.n rfl ((N2.out.only hW NE.out).cell (vc0 v))⟩) S0.out ?_
  try simp only [Act.put, List.setIfInBounds_toArray, List.set_cons_zero, List.set_cons_succ]
  refine wpAnyH_take (i := 8) (oi := { dst := some 24, op := Go.Op.binOp Go.BinOp.rem 36 (Go.Operand.tmp 23) (Go.Operand.const (Go.Value.int Go.IntKind.u64 256)) 36, type := 36, pos := _, after := #[{ on := 7, ground := Go.Ground.data }, { on := 11, ground := Go.Ground.gcOnly Go.Departure.lateStores }], guard := none }) (v := .int .u64 (v.n % 256)) rfl (by kernel_rfl) (by kernel_rfl) (by kernel_rfl) (fun _ _ _ h => h) (Or.inl ⟨by rfl, fun W hW => exec_rem256 (.tmp 23) rfl v.n rfl VO.out.n0⟩) S0.out ?_
  try simp only [Act.put, List.setIfInBounds_toArray, List.set_cons_zero, List.set_cons_succ]
  refine wpAnyH_take (i := 9) (oi := { dst := some 25, op := Go.Op.convert 36 5 (Go.Operand.tmp 24), type := 5, pos := _, after := #[{ on := 8, ground := Go.Ground.data }, { on := 11, ground := Go.Ground.gcOnly Go.Departure.lateStores }], guard := none }) (v := .int .u8 (v.n % 256 % 256)) rfl (by kernel_rfl) (by kernel_rfl) (by kernel_rfl) (fun _ _ _ h => h) (Or.inl ⟨by rfl, fun W hW => exec_conv8 (.tmp 24) rfl (v.n % 256) rfl⟩) S0.out ?_
  try simp only [Act.put, List.setIfInBounds_toArray, List.set_cons_zero, List.set_cons_succ]
  refine wpAnyH_ready (rs := [10]) (by kernel_rfl) (by simp) ?_
  refine ready_store_cs (o := { dst := none, op := Go.Op.store 26 (Go.Operand.tmp 4) (Go.Operand.tmp 17), type := 0, pos := _, after := #[{ on := 1, ground := Go.Ground.data }, { on := 0, ground := Go.Ground.phase }, { on := 1, ground := Go.Ground.phase }, { on := 2, ground := Go.Ground.textOnly Go.Departure.lateStores }, { on := 3, ground := Go.Ground.textOnly Go.Departure.lateStores }, { on := 4, ground := Go.Ground.textOnly Go.Departure.lateStores }, { on := 5, ground := Go.Ground.textOnly Go.Departure.lateStores }, { on := 6, ground := Go.Ground.textOnly Go.Departure.lateStores }, { on := 7, ground := Go.Ground.textOnly Go.Departure.lateStores }, { on := 8, ground := Go.Ground.textOnly Go.Departure.lateStores }, { on := 9, ground := Go.Ground.textOnly Go.Departure.lateStores }], guard := none }) rfl rfl 26 (.tmp 4) (.tmp 17) rfl w.heap.size (nmL M.zero8) (nmL v.t) rfl rfl (N4.out.below (below_drew (Below.refl _ _))) (by unfold nmL; rw [List.length_map, List.length_map, VO.out.tl]; rfl) (size_nmL VO.out.tl) (nm_one v.t) (fun W5 N5 O5 => ?_) AllReadyH.nil
  have M5 := Lib.hid N5
  have S5 := Lib.hid (S0.out.trans O5)
  clear N5 O5
  refine ⟨S5.out, ?_⟩
  try simp only [Act.put]
  refine wpAnyH_take (i := 11) (oi := { dst := some 5, op := Go.Op.assign (Go.Operand.tmp 21), type := 27, pos := _, after := #[{ on := 5, ground := Go.Ground.data }, { on := 10, ground := Go.Ground.chain }, { on := 0, ground := Go.Ground.phase }, { on := 1, ground := Go.Ground.phase }, { on := 2, ground := Go.Ground.phase }, { on := 3, ground := Go.Ground.phase }, { on := 4, ground := Go.Ground.phase }, { on := 5, ground := Go.Ground.phase }, { on := 6, ground := Go.Ground.textOnly Go.Departure.lateStores }, { on := 7, ground := Go.Ground.textOnly Go.Departure.lateStores }, { on := 8, ground := Go.Ground.textOnly Go.Departure.lateStores }, { on := 9, ground := Go.Ground.textOnly Go.Departure.lateStores }, { on := 10, ground := Go.Ground.phase }], guard := none }) (v := ?_) rfl (by kernel_rfl) (by kernel_rfl) (by kernel_rfl) (fun _ _ _ h => h) (Or.inl ⟨by rfl, ?_⟩) S5.out ?_
  rotate_left
  · intro W hW; (go_simp; try with_reducible rfl)
  try simp only [Act.put, List.setIfInBounds_toArray, List.set_cons_zero, List.set_cons_succ]
  refine wpAnyH_take (i := 12) (oi := { dst := some 6, op := Go.Op.assign (Go.Operand.tmp 25), type := 5, pos := _, after := #[{ on := 9, ground := Go.Ground.data }, { on := 11, ground := Go.Ground.chain }, { on := 0, ground := Go.Ground.phase }, { on := 1, ground := Go.Ground.phase }, { on := 2, ground := Go.Ground.phase }, { on := 3, ground := Go.Ground.phase }, { on := 4, ground := Go.Ground.phase }, { on := 5, ground := Go.Ground.phase }, { on := 6, ground := Go.Ground.phase }, { on := 7, ground := Go.Ground.phase }, { on := 8, ground := Go.Ground.phase }, { on := 9, ground := Go.Ground.phase }, { on := 10, ground := Go.Ground.phase }, { on := 11, ground := Go.Ground.phase }], guard := none }) (v := ?_) rfl (by kernel_rfl) (by kernel_rfl) (by kernel_rfl) (fun _ _ _ h => h) (Or.inl ⟨by rfl, ?_⟩) S5.out ?_
  rotate_left
  · intro W hW; (go_simp; try with_reducible rfl)
  try simp only [Act.put, List.setIfInBounds_toArray, List.set_cons_zero, List.set_cons_succ]
  refine wpAnyH_done (by kernel_rfl) ?_ _
  refine NoPanic.normal ?_
  go_wp2_with fail
  refine bodyPost_ret (results_note2 rfl _ _ w.heap.size v.t rfl M5.out VO.out.tl) rfl ?_
  have e8 : v.n % 256 % 256 = v.n % 256 := by omega
  refine ⟨by rw [e8]; rfl, B2.out.trans (S5.out.below (Nat.le_refl _) B2.out.size)⟩
theorem ac1 (a : Am) : a.cells[1]? = some (.int .u16 a.k.c) := rfl
def rcL (s : List Am) : List Int := (s.filter fun x => decide (x.k.s = 4)).map (·.k.c)
theorem rcL_snoc (s : List Am) (x : Am) : rcL (s ++ [x]) = if x.k.s = 4 then rcL s ++ [x.k.c] else rcL s := by
  unfold rcL
  rw [List.filter_append, List.map_append]
  split
  · rename_i h; simp [h]
  · rename_i h; simp [h]
theorem rcL_len (s : List Am) : (rcL s).length ≤ s.length := by unfold rcL; rw [List.length_map]; exact List.length_filter_le ..
set_option maxRecDepth 100000 in
set_option maxHeartbeats 4000000 in
theorem refCarts_is (A : Option Addr) (n cap : Nat) (a : List Am) (L : List Int) (w : World) (h : RowV w A n cap a) (hn : n ≤ 600) (hL : Hid (notes a = L)) : Calls Try.prog 11 #[.slice A n cap] w (GivesC w L) := by
  have H := Lib.hid h
  clear h
  go_enter Try.func11, Try.ntmps11
  go_wp2_with fail
  refine (refNorm_is A n cap a _ H.out (by omega)).mono ?_
  rintro e w1 ⟨⟨D, n1, cp, rfl, r1⟩, b1⟩
  have R1 := Lib.hid r1
  have B1 := Lib.hid b1
  obtain ⟨s, hs⟩ : ∃ s, norm a = s := ⟨_, rfl⟩
  have ln1 : n1 ≤ 600 := by have := norm_len a; have := r1.len; have := H.out.len; omega
  have NS := Lib.hid (show rcL s = L by rw [← hL.out, ← hs]; rfl)
  rw [hs] at R1
  clear r1 b1 hs
  go_wp2_with fail
  go_loopw [3, 4] (fun o i wr => ∃ j : Nat, j ≤ n1 ∧ i = .int .i64 j ∧ OwnN wr w1.heap.size o (rcL (s.take j)) ∧ Below w1.heap.size w1 wr) (fun _ i _ => n1 - (intOf i).toNat)
  case atStart => exact ⟨0, Nat.zero_le _, rfl, ownN_nil _ _, Below.refl _ _⟩
  case round =>
    obtain ⟨j, hj, rfl, ho, hb⟩ := hrel
    have OO := Lib.hid ho
    have BB := Lib.hid hb
    clear ho hb
    by_cases hlt : j < n1
    · obtain ⟨G, p0, hE⟩ := (R1.out.below BB.out).elem j hlt
      have E := Lib.hid hE
      have TK := Lib.hid (take_getD (l := s) (j := j) (by have := R1.out.len; omega))
      obtain ⟨x, hx⟩ : ∃ x, s.getD j azero = x := ⟨_, rfl⟩
      rw [hx] at E TK
      have DL := Lib.hid (show (rcL (s.take j)).length + [x.k.c].length ≤ 30000 by have := rcL_len (s.take j); have := List.length_take_le j s; simp; omega)
      have XO := Lib.hid (show x.Ok from E.out.ok)
      have XC := Lib.hid (show 0 ≤ x.k.c ∧ x.k.c < 65536 from ⟨XO.out.k.c0, XO.out.k.c1⟩)
      have c1 := E.out.rg 0 _ (ac0 x)
      rw [Nat.add_zero] at c1
      have c2 := E.out.rg 1 _ (ac1 x)
      clear hE hx
      by_cases h1 : x.k.s = 4
      · have b1 : (x.k.s == 4) = true := by simpa using h1
        have SN := Lib.hid (show rcL (s.take (j + 1)) = rcL (s.take j) ++ [x.k.c] by rw [TK.out, rcL_snoc, if_pos h1])
        go_wp2_with (first
          | (refine wpList_index rfl _ _ rfl D n1 cp G p0 j x _ rfl rfl (by first | rfl | omega) E.out ?_)
          | (refine wpList_num1 Try.underlying31 rfl _ rfl x.k.c rfl XC.out ?_; intro g6 w6 e6 N6 B6)
          | (obtain ⟨A0, c0, rfl⟩ := OO.out.shape; refine wpList_app_n Try.underlying31 rfl _ _ rfl w1.heap.size _ (.slice (some ⟨g6, 0, none⟩) 1 1) (rcL (s.take j)) [x.k.c] rfl rfl (OO.out.below B6.out) N6.out DL.out (Nat.le_trans BB.out.size B6.out.size) ?_; intro D7 m7 c7 w7 e7 O7 B7 G7))
        go_roundw
        case rel => exact ⟨j + 1, by omega, by go_num, by rw [SN.out]; exact O7.out, (BB.out.trans (B6.out.mono BB.out.size)).trans B7.out⟩
        case measure => simp [intOf]; omega
      · have b1 : (x.k.s == 4) = false := by simpa using h1
        have SN := Lib.hid (show rcL (s.take (j + 1)) = rcL (s.take j) by rw [TK.out, rcL_snoc, if_neg h1])
        go_wp2_with (refine wpList_index rfl _ _ rfl D n1 cp G p0 j x _ rfl rfl (by first | rfl | omega) E.out ?_)
        go_roundw
        case rel => exact ⟨j + 1, by omega, by go_num, by rw [SN.out]; exact OO.out, BB.out⟩
        case measure => simp [intOf]; omega
    · obtain rfl : n1 = j := by omega
      have HS := Lib.hid (show s.take n1 = s from List.take_of_length_le (by have := R1.out.len; omega))
      go_wp2_with fail
      go_ret
      rw [HS.out, NS.out] at OO
      exact ⟨⟨_, rfl, OO.out.down B1.out.size⟩, step_ B1.out BB.out⟩
set_option maxRecDepth 100000 in
theorem same16_other (A A2 : Option Addr) (n m cap cap2 : Nat) (w : World) (hnm : (n : Int) ≠ (m : Int)) : Calls Try.prog 9 #[.slice A n cap, .slice A2 m cap2] w fun e w' => e = .returned (.bool false) ∧ Below w.heap.size w w' := by
  have hd : (((n : Int)) == (m : Int)) = false := beq_eq_false_iff_ne.2 hnm
  clear hnm
  go_enter Try.func9, Try.ntmps9
  go_wp2_with fail
  go_ret
  exact ⟨rfl, Below.refl _ _⟩
set_option maxRecDepth 100000 in
set_option maxHeartbeats 2000000 in
theorem same16_len (A A2 : Option Addr) (n cap cap2 : Nat) (l m : List Int) (b : Bool) (w : World) (h : NumsAt w (.slice A n cap) l) (h2 : NumsAt w (.slice A2 n cap2) m) (hn : n ≤ 5000) (hb : Hid (decide (l = m) = b)) : Calls Try.prog 9 #[.slice A n cap, .slice A2 n cap2] w fun e w' => e = .returned (.bool b) ∧ Below w.heap.size w w' := by
  have H := Lib.hid h
  have J := Lib.hid h2
  have HL := Lib.hid h.len
  have JL := Lib.hid h2.len
  clear h h2
  go_enter Try.func9, Try.ntmps9
  go_wp2_with fail
  go_loopw [5] (fun i wr => ∃ j : Nat, j ≤ n ∧ i = .int .i64 j ∧ decide (l.drop j = m.drop j) = b ∧ Below w.heap.size w wr) (fun i _ => n - (intOf i).toNat)
  case atStart => exact ⟨0, Nat.zero_le _, rfl, hb.out, Below.refl _ _⟩
  case round =>
    obtain ⟨j, hj, rfl, hf, hb⟩ := hrel
    have HF := Lib.hid hf
    have BB := Lib.hid hb
    clear hf hb
    by_cases hlt : j < n
    · obtain ⟨G, p, hE, hEc, -⟩ := (H.out.below BB.out).elem j (by have := HL.out; omega)
      obtain ⟨G2, p2, hE2, hEc2, -⟩ := (J.out.below BB.out).elem j (by have := JL.out; omega)
      have E := Lib.hid hE
      have F := Lib.hid hE2
      have EC := Lib.hid hEc
      have FC := Lib.hid hEc2
      have T := Lib.hid (drop_getDG 0 (l := l) (j := j) (by have := HL.out; omega))
      have U := Lib.hid (drop_getDG 0 (l := m) (j := j) (by have := JL.out; omega))
      obtain ⟨x, hx⟩ : ∃ x, l.getD j 0 = x := ⟨_, rfl⟩
      obtain ⟨y, hy⟩ : ∃ y, m.getD j 0 = y := ⟨_, rfl⟩
      rw [hx] at EC T
      rw [hy] at FC U
      clear hE hx hE2 hy hEc hEc2
      by_cases hkk : x = y
      · have bE : (x != y) = false := by simp [hkk]
        have HO := Lib.hid (show decide (l.drop (j + 1) = m.drop (j + 1)) = b by rw [← HF.out, T.out, U.out, hkk]; simp)
        go_wp2_with fail
        refine region_later (by kernel_rfl) (by kernel_rfl) ?_
        go_big_quiet_step (fail)
        go_big_quiet_step (fail)
        (go_big_quiet_want; refine quiet_val _ (fun _ => exec_indexN Try.underlying31 _ _ rfl A n cap G p j _ rfl rfl (by first | rfl | omega) E.out) ?_; go_simp; go_big_quiet_on)
        (go_big_quiet_want; refine quiet_load_i Try.underlying23 G p x _ rfl rfl EC.out ?_; go_simp; go_big_quiet_on)
        go_big_quiet_step (fail)
        go_big_quiet_step (fail)
        (go_big_quiet_want; refine quiet_val _ (fun _ => exec_indexN Try.underlying31 _ _ rfl A2 n cap2 G2 p2 j _ rfl rfl (by first | rfl | omega) F.out) ?_; go_simp; go_big_quiet_on)
        (go_big_quiet_want; refine quiet_load_i Try.underlying23 G2 p2 y _ rfl rfl FC.out ?_; go_simp; go_big_quiet_on)
        go_big_quiet_step (fail)
        refine wpQuiet_nil ?_
        intro w2 hw2
        have B2 := Lib.hid (step_ BB.out hw2)
        clear hw2
        go_wp2_with fail
        go_roundw
        case rel => exact ⟨j + 1, by omega, by go_num, HO.out, B2.out⟩
        case measure => simp [intOf]; omega
      · have bE : (x != y) = true := by simp [hkk]
        have HO := Lib.hid (show b = false by rw [← HF.out, T.out, U.out]; simp [hkk])
        go_wp2_with fail
        refine region_later (by kernel_rfl) (by kernel_rfl) ?_
        go_big_quiet_step (fail)
        go_big_quiet_step (fail)
        (go_big_quiet_want; refine quiet_val _ (fun _ => exec_indexN Try.underlying31 _ _ rfl A n cap G p j _ rfl rfl (by first | rfl | omega) E.out) ?_; go_simp; go_big_quiet_on)
        (go_big_quiet_want; refine quiet_load_i Try.underlying23 G p x _ rfl rfl EC.out ?_; go_simp; go_big_quiet_on)
        go_big_quiet_step (fail)
        go_big_quiet_step (fail)
        (go_big_quiet_want; refine quiet_val _ (fun _ => exec_indexN Try.underlying31 _ _ rfl A2 n cap2 G2 p2 j _ rfl rfl (by first | rfl | omega) F.out) ?_; go_simp; go_big_quiet_on)
        (go_big_quiet_want; refine quiet_load_i Try.underlying23 G2 p2 y _ rfl rfl FC.out ?_; go_simp; go_big_quiet_on)
        go_big_quiet_step (fail)
        refine wpQuiet_nil ?_
        intro w2 hw2
        have B2 := Lib.hid (step_ BB.out hw2)
        clear hw2
        go_wp2_with fail
        go_ret
        exact ⟨ret_bool HO.out.symm, B2.out⟩
    · obtain rfl : j = n := by omega
      have HO := Lib.hid (show b = true by rw [← HF.out, List.drop_of_length_le (by have := HL.out; omega), List.drop_of_length_le (by have := JL.out; omega)]; rfl)
      go_wp2_with fail
      go_ret
      exact ⟨ret_bool HO.out.symm, BB.out⟩
theorem same16_is (v u : Value) (l k : List Int) (b : Bool) (w : World) (h : NumsAt w v l) (h2 : NumsAt w u k) (hn : l.length ≤ 5000) (hb : Hid (decide (l = k) = b)) : Calls Try.prog 9 #[v, u] w fun e w' => e = .returned (.bool b) ∧ Below w.heap.size w w' := by
  obtain ⟨A, cap, rfl⟩ := h.shape
  obtain ⟨A2, cap2, rfl⟩ := h2.shape
  by_cases e : l.length = k.length
  · rw [← e]
    rw [← e] at h2
    exact same16_len A A2 l.length cap cap2 l k b w h h2 hn hb
  · have hf : b = false := by
      rw [← hb.out]
      exact decide_eq_false (fun e2 => e (by rw [e2]))
    rw [hf]
    exact same16_other A A2 l.length k.length cap cap2 w (by omega)
end Go.Proofs.Ytgggjhbijnndhaa
namespace Go.Proofs.Ytgggjhbijnndhaa
open Go.RowKit

def GivesRN (w : World) (l : List Am) (e0 : Int) (e : Ending) (w' : World) : Prop := (∃ A n cap, e = .returned (.tuple #[.slice A n cap, .int .i64 e0]) ∧ RowV w' A n cap l) ∧ Below w.heap.size w w'
theorem rowN_own1 {w : World} {g : Nat} {x : Am} (h : Blk w g 63 x.cells) (hx : x.Ok) : RowV w (some ⟨g, 0, none⟩) 1 1 [x] :=
  ⟨fun y hy => by rw [List.mem_singleton.1 hy]; exact hx, rfl, Nat.le_refl _, by unfold maxLen; decide, fun _ => ⟨g, 0, rfl, h.lt, fun i hi j v hv => by
    obtain rfl : i = 0 := by simpa using hi
    have := h.range j v hv
    simpa using this⟩⟩
def putL (a : List Am) (c rep : Int) (t : List Int) : List Am := if noteE (vnum (noteV a c)) rep t = 0 then [noteA c (vnum (noteV a c)) rep t] else []
theorem putL_ok {a : List Am} {c rep : Int} {t : List Int} (hc : 0 ≤ c ∧ c < 65536) (hr : 0 ≤ rep) (ht : NOk t) : OkR (putL a c rep t) := by
  unfold putL
  split
  · rename_i h; exact (note_st hc hr ht h).ok
  · exact okR_nil
theorem exec_add32 {o : Oper} {a : Act} {w : World} (x : Operand) (ho : o.op = .binOp .add 27 x (.const (.int .u32 1)) 27) (n : Int) (hx : a.eval x = .int .u32 n) (h0 : 0 ≤ n) (h1 : n < 4294967295) :
    (execOp a.eval o).run Try.prog w = .ok (.value (.int .u32 (n + 1))) w := by
  unfold execOp
  simp only [ho, hx]
  go_simp
  show ((n + 1) % 4294967296 : Int) = n + 1
  omega
theorem built30v (n : Int) (d1 d2 d3 d4 d5 d6 d7 d8 : Value) : Try.prog.built 38 [(0, .int .u64 n), (1, .agg #[d1, d2, d3, d4, d5, d6, d7, d8])] = some #[.int .u64 n, d1, d2, d3, d4, d5, d6, d7, d8] := by kernel_rfl
theorem built30_2 (n : Int) {t : List Int} (ht : t.length = 8) : Try.prog.built 38 [(0, .int .u64 n), (1, .agg (nm t))] = some (⟨n, t⟩ : Vl).cells.toArray := by
  match t, ht with
  | [c0, c1, c2, c3, c4, c5, c6, c7], _ => exact built30v n _ _ _ _ _ _ _ _
theorem noteE_rep {n rep : Int} {t : List Int} (h : 16 ≤ rep) : noteE n rep t = 1 := by unfold noteE; rw [if_pos (.inl h)]
theorem noteE_text {n rep : Int} {t : List Int} (h : t ≠ M.zero8) (h2 : M.rightB t = false) : noteE n rep t = 1 := by unfold noteE; rw [if_pos (.inr ⟨h, h2⟩)]
theorem noteE_rest {n rep : Int} {t : List Int} (h : ¬ 16 ≤ rep) (h2 : t = M.zero8 ∨ M.rightB t = true) : noteE n rep t = if n = 4294967295 then 8 else 0 := by
  unfold noteE
  rw [if_neg (fun q => ?_)]
  rcases q with q | ⟨q1, q2⟩
  · exact h q
  · rcases h2 with h2 | h2
    · exact q1 h2
    · rw [h2] at q2; cases q2
set_option maxRecDepth 100000 in
set_option maxHeartbeats 2000000 in
theorem fault_is (n rep : Int) (t : List Int) (e0 : Int) (w : World) (ht : NOk t) (he : Hid (noteE n rep t = e0)) : Calls Try.prog 24 #[.int .u32 n, .int .u8 rep, .agg (nm t)] w fun e w' => e = .returned (.int .i64 e0) ∧ Below w.heap.size w w' := by
  have HT := Lib.hid ht
  have R0 := Lib.hid (blk_alloc w 26 (nmL t)).range
  have B0 := Lib.hid (new_below w (.cells (nm t) 26))
  have hz := zero23
  clear ht
  by_cases hr : 16 ≤ rep
  · obtain rfl : 1 = e0 := (noteE_rep hr).symm.trans he.out
    go_enter Try.func24, Try.ntmps24
    go_wp2_with fail
    go_ret
    exact ⟨rfl, B0.out⟩
  · by_cases hz8 : t = M.zero8
    · have hs : (t != M.zero8) = false := by simp [hz8]
      have HS := Lib.hid hs
      have HE := Lib.hid ((noteE_rest hr (.inl hz8)).symm.trans he.out)
      clear hs he hz8
      go_enter Try.func24, Try.ntmps24
      go_wp2_with (refine wpList_load_nm rfl _ rfl w.heap.size 0 t rfl R0.out HT.out.1 ?_)
      refine (some_is t false _ HT.out.1 HS).mono ?_
      rintro e w1 ⟨rfl, b1⟩
      have B1 := Lib.hid (step_ B0.out b1)
      clear b1
      by_cases hm : n = 4294967295
      · obtain rfl : 8 = e0 := by rw [← HE.out, if_pos hm]
        subst hm
        go_wp2_with go_skip
        go_ret
        exact ⟨rfl, B1.out⟩
      · obtain rfl : 0 = e0 := by rw [← HE.out, if_neg hm]
        have hmb : (n == 4294967295) = false := by simpa using hm
        go_wp2_with go_skip
        go_ret
        exact ⟨rfl, B1.out⟩
    · have hs : (t != M.zero8) = true := by simp [hz8]
      have HS := Lib.hid hs
      cases hq : M.rightB t with
      | false =>
        obtain rfl : 1 = e0 := (noteE_text hz8 hq).symm.trans he.out
        have HQ := Lib.hid hq
        clear hs he hq
        go_enter Try.func24, Try.ntmps24
        go_wp2_with (refine wpList_load_nm rfl _ rfl w.heap.size 0 t rfl R0.out HT.out.1 ?_)
        refine (some_is t true _ HT.out.1 HS).mono ?_
        rintro e w1 ⟨rfl, b1⟩
        have B1 := Lib.hid (step_ B0.out b1)
        have R1 := Lib.hid ((blk_alloc w 26 (nmL t)).below b1).range
        clear b1
        go_wp2_with (refine wanted_on rfl ?_; refine wpList_load_nm rfl _ rfl w.heap.size 0 t rfl R1.out HT.out.1 ?_)
        refine (right_is t false _ HT.out.1 (Lib.hid HT.out.2) HQ).mono ?_
        rintro e w2 ⟨rfl, b2⟩
        have B2 := Lib.hid (step_ B1.out b2)
        clear b2
        go_wp2_with fail
        go_ret
        exact ⟨rfl, B2.out⟩
      | true =>
        have HE := Lib.hid ((noteE_rest hr (.inr hq)).symm.trans he.out)
        have HQ := Lib.hid hq
        clear hs he hq
        go_enter Try.func24, Try.ntmps24
        go_wp2_with (refine wpList_load_nm rfl _ rfl w.heap.size 0 t rfl R0.out HT.out.1 ?_)
        refine (some_is t true _ HT.out.1 HS).mono ?_
        rintro e w1 ⟨rfl, b1⟩
        have B1 := Lib.hid (step_ B0.out b1)
        have R1 := Lib.hid ((blk_alloc w 26 (nmL t)).below b1).range
        clear b1
        go_wp2_with (refine wanted_on rfl ?_; refine wpList_load_nm rfl _ rfl w.heap.size 0 t rfl R1.out HT.out.1 ?_)
        refine (right_is t true _ HT.out.1 (Lib.hid HT.out.2) HQ).mono ?_
        rintro e w2 ⟨rfl, b2⟩
        have B2 := Lib.hid (step_ B1.out b2)
        clear b2
        by_cases hm : n = 4294967295
        · obtain rfl : 8 = e0 := by rw [← HE.out, if_pos hm]
          subst hm
          go_wp2_with go_skip
          go_ret
          exact ⟨rfl, B2.out⟩
        · obtain rfl : 0 = e0 := by rw [← HE.out, if_neg hm]
          have hmb : (n == 4294967295) = false := by simpa using hm
          go_wp2_with go_skip
          go_ret
          exact ⟨rfl, B2.out⟩
set_option maxRecDepth 100000 in
set_option maxHeartbeats 4000000 in
theorem nput_is (A : Option Addr) (n cap : Nat) (a : List Am) (rep c : Int) (t : List Int) (e0 : Int) (l : List Am) (w : World) (h : RowV w A n cap a) (hn : n ≤ 600) (ht : NOk t) (hc : 0 ≤ c ∧ c < 65536) (hr : 0 ≤ rep ∧ rep < 256) (he : Hid (noteE (vnum (noteV a c)) rep t = e0)) (hl : Hid (putL a c rep t = l)) :
    Calls Try.prog 12 #[.slice A n cap, .int .u8 rep, .int .u16 c, .agg (nm t)] w (GivesRN w l e0) := by
  have HT := Lib.hid ht
  obtain ⟨v, hv⟩ : ∃ v, noteV a c = v := ⟨_, rfl⟩
  have HV := Lib.hid hv
  have VT := Lib.hid (show v.t.length = 8 by rw [← hv]; exact (noteV_ok h.ok c).tl)
  have HE := Lib.hid (show noteE (vnum v) rep t = e0 by rw [← hv]; exact he.out)
  have NT0 := Lib.hid (blk_alloc w 26 (nmL t))
  have B0 := Lib.hid (new_below w (.cells (nm t) 26))
  have H0 := Lib.hid (h.below B0.out)
  have hz := zero23
  clear h ht
  by_cases h0 : e0 = 0
  · subst h0
    have PP := noteE_zero HE.out
    have PN := Lib.hid (show 0 ≤ vnum v ∧ vnum v < 4294967295 by have := vnum_r v; have := PP.2.2; omega)
    have PR := Lib.hid (show 0 ≤ rep ∧ rep < 16 from ⟨hr.1, PP.1⟩)
    have NO := Lib.hid (noteA_ok hc PN.out PR.out HT.out)
    have HL := Lib.hid (show [noteA c (vnum v) rep t] = l by rw [← hl.out, ← hv]; unfold putL; rw [if_pos he.out])
    clear PP he hl hv
    go_enter Try.func12, Try.ntmps12
    go_wp2_with fail
    refine (get_is A n cap a c v _ H0.out hn hc HV).mono ?_
    rintro e w1 ⟨rfl, b1⟩
    have B1 := Lib.hid (step_ B0.out b1)
    have NT1 := Lib.hid (NT0.out.below b1)
    have Z1 := Lib.hid (blk_alloc w1 26 (nmL M.zero8))
    clear b1
    go_wp2_with (first
      | (refine wpList_store_cs rfl 26 _ _ rfl w1.heap.size (nmL M.zero8) (nmL v.t) rfl rfl Z1.out (by unfold nmL; rw [List.length_map, List.length_map, VT.out]; rfl) (size_nmL VT.out) (nm_one v.t) ?_; intro w2 N2 O2; have BX := Lib.hid (box_below O2.out); have NT2 := Lib.hid (NT1.out.below BX.out))
      | (refine wpList_load_nm rfl _ rfl w.heap.size 0 t rfl NT2.out.range HT.out.1 ?_))
    have B2 := Lib.hid (step_ B1.out BX.out)
    refine (fault_is (vnum v) rep t 0 _ HT.out HE).mono ?_
    rintro e w3 ⟨rfl, b3⟩
    have B3 := Lib.hid (step_ B2.out b3)
    have NT := Lib.hid (NT2.out.below b3)
    clear b3
    go_wp2_with fail
    have S0 := Lib.hid (show Below w3.heap.size w3 w3.drew from below_drew (Below.refl _ _))
    refine wp_region_noPanic ?_
    refine wp_region_held_drew (S := fun W => Below w3.heap.size w3 W) (by kernel_rfl) S0.out (fun _ => ?_)
    refine wpAnyH_take (i := 0) (oi := { dst := some 28, op := Go.Op.move (Go.Operand.tmp 2), type := 23, pos := _, after := #[], guard := none }) (v := ?_) rfl (by kernel_rfl) (by kernel_rfl) (by kernel_rfl) (fun _ _ _ h => h) (Or.inl ⟨by rfl, ?_⟩) S0.out ?_
    rotate_left
    · intro W hW; (go_simp; try with_reducible rfl)
    try simp only [Act.put, List.setIfInBounds_toArray, List.set_cons_zero, List.set_cons_succ]
    refine wpAnyH_take (i := 2) (oi := { dst := some 30, op := Go.Op.move (Go.Operand.tmp 11), type := 27, pos := _, after := #[], guard := none }) (v := ?_) rfl (by kernel_rfl) (by kernel_rfl) (by kernel_rfl) (fun _ _ _ h => h) (Or.inl ⟨by rfl, ?_⟩) S0.out ?_
    rotate_left
    · intro W hW; (go_simp; try with_reducible rfl)
    try simp only [Act.put, List.setIfInBounds_toArray, List.set_cons_zero, List.set_cons_succ]
    refine wpAnyH_take (i := 3) (oi := { dst := some 31, op := Go.Op.binOp Go.BinOp.add 27 (Go.Operand.tmp 30) (Go.Operand.const (Go.Value.int Go.IntKind.u32 1)) 27, type := 27, pos := _, after := #[{ on := 2, ground := Go.Ground.data }], guard := none }) (v := .int .u32 (vnum v + 1)) rfl (by kernel_rfl) (by kernel_rfl) (by kernel_rfl) (fun _ _ _ h => h) (Or.inl ⟨by rfl, fun W hW => exec_add32 (.tmp 30) rfl (vnum v) rfl PN.out.1 PN.out.2⟩) S0.out ?_
    try simp only [Act.put, List.setIfInBounds_toArray, List.set_cons_zero, List.set_cons_succ]
    refine wpAnyH_take (i := 4) (oi := { dst := some 32, op := Go.Op.move (Go.Operand.tmp 1), type := 5, pos := _, after := #[], guard := none }) (v := ?_) rfl (by kernel_rfl) (by kernel_rfl) (by kernel_rfl) (fun _ _ _ h => h) (Or.inl ⟨by rfl, ?_⟩) S0.out ?_
    rotate_left
    · intro W hW; (go_simp; try with_reducible rfl)
    try simp only [Act.put, List.setIfInBounds_toArray, List.set_cons_zero, List.set_cons_succ]
    refine wpAnyH_take (i := 6) (oi := { dst := some 34, op := Go.Op.load 26 (Go.Operand.tmp 7), type := 26, pos := _, after := #[], guard := none }) (v := .agg (nmL t).toArray) rfl (by kernel_rfl) (by kernel_rfl) (by kernel_rfl) (fun _ _ _ h => h) (yieldsIf_load_mid (by rfl) 26 (.tmp 7) rfl w.heap.size 0 rfl (nmL t) _ (fun W hW => ((NT.out.below hW).range)) Try.underlying26 rfl (size_nmL HT.out.1)) S0.out ?_
    try simp only [Act.put, List.setIfInBounds_toArray, List.set_cons_zero, List.set_cons_succ]
    refine wpAnyH_ready (rs := [1]) (by kernel_rfl) (by simp) ?_
    refine AllReadyH.cons (o := { dst := some 29, op := Go.Op.call { callee := Go.Callee.value (Go.Operand.func 25), args := #[Go.Operand.tmp 28], argTypes := #[23] }, type := 55, pos := _, after := #[{ on := 0, ground := Go.Ground.data }], guard := none }) rfl (fun K hK => ?_) AllReadyH.nil
    go_simp
    refine (keyOf_is c _).mono ?_
    rintro e w1 ⟨rfl, b1⟩
    have S1 := Lib.hid (step_ S0.out b1)
    clear b1
    go_wp2_with fail
    refine hK.out _ _ S1.out (fun _ => ?_)
    clear hK K
    try simp only [Act.put, List.setIfInBounds_toArray, List.set_cons_zero, List.set_cons_succ]
    refine wpAnyH_ready (rs := [5]) (by kernel_rfl) (by simp) ?_
    refine AllReadyH.cons (o := { dst := some 33, op := Go.Op.call { callee := Go.Callee.value (Go.Operand.func 26), args := #[Go.Operand.tmp 31, Go.Operand.tmp 32], argTypes := #[27, 5] }, type := 36, pos := _, after := #[{ on := 3, ground := Go.Ground.data }, { on := 4, ground := Go.Ground.data }, { on := 1, ground := Go.Ground.chain }], guard := none }) rfl (fun K hK => ?_) AllReadyH.nil
    go_simp
    refine (stamp_is (vnum v + 1) rep (noteN (vnum v) rep) _ (by have := PN.out; omega) (by have := PN.out; omega) (by have := PR.out; omega) (by have := PR.out; omega) (Lib.hid rfl)).mono ?_
    rintro e w2 ⟨rfl, rfl⟩
    go_wp2_with fail
    refine hK.out _ _ S1.out (fun _ => ?_)
    clear hK K
    try simp only [Act.put, List.setIfInBounds_toArray, List.set_cons_zero, List.set_cons_succ]
    refine wpAnyH_take (i := 7) (oi := { dst := some 35, op := Go.Op.build 38 #[(0, Go.Operand.tmp 33), (1, Go.Operand.tmp 34)], type := 38, pos := _, after := #[{ on := 5, ground := Go.Ground.data }, { on := 6, ground := Go.Ground.data }], guard := none }) (v := .agg (⟨noteN (vnum v) rep, t⟩ : Vl).cells.toArray) rfl (by kernel_rfl) (by kernel_rfl) (by kernel_rfl) (fun _ _ _ h => h) (Or.inl ⟨by rfl, fun W hW => exec_build 38 _ rfl [(0, .int .u64 (noteN (vnum v) rep)), (1, .agg (nm t))] rfl _ (built30_2 _ HT.out.1)⟩) S1.out ?_
    try simp only [Act.put, List.setIfInBounds_toArray, List.set_cons_zero, List.set_cons_succ]
    refine wpAnyH_take (i := 8) (oi := { dst := some 36, op := Go.Op.build 63 #[(0, Go.Operand.tmp 29), (1, Go.Operand.tmp 35)], type := 63, pos := _, after := #[{ on := 1, ground := Go.Ground.data }, { on := 7, ground := Go.Ground.data }], guard := none }) (v := .agg (noteA c (vnum v) rep t).cells.toArray) rfl (by kernel_rfl) (by kernel_rfl) (by kernel_rfl) (fun _ _ _ h => h) (Or.inl ⟨by rfl, fun W hW => exec_build 63 _ rfl [(0, .agg (noteK c).cells.toArray), (1, .agg (⟨noteN (vnum v) rep, t⟩ : Vl).cells.toArray)] rfl _ (built46 (noteK c) ⟨noteN (vnum v) rep, t⟩ rfl HT.out.1)⟩) S1.out ?_
    try simp only [Act.put, List.setIfInBounds_toArray, List.set_cons_zero, List.set_cons_succ]
    refine wpAnyH_ready (rs := [9]) (by kernel_rfl) (by simp) ?_
    refine ready_one46 (o := { dst := some 37, op := Go.Op.buildSlice 22 1 #[(0, Go.Operand.tmp 36)], type := 22, pos := _, after := #[{ on := 8, ground := Go.Ground.data }], guard := none }) rfl rfl _ rfl (noteA c (vnum v) rep t) rfl NO.out (fun g3 w3 e3 N3 b3 => ?_) AllReadyH.nil
    have M5 := Lib.hid N3
    have S3 := Lib.hid (step_ S1.out b3)
    clear N3 e3 b3
    refine ⟨S3.out, ?_⟩
    try simp only [Act.put, List.setIfInBounds_toArray, List.set_cons_zero, List.set_cons_succ]
    refine wpAnyH_take (i := 10) (oi := { dst := some 8, op := Go.Op.assign (Go.Operand.tmp 37), type := 22, pos := _, after := #[{ on := 9, ground := Go.Ground.data }, { on := 5, ground := Go.Ground.chain }, { on := 0, ground := Go.Ground.phase }, { on := 1, ground := Go.Ground.phase }, { on := 2, ground := Go.Ground.phase }, { on := 3, ground := Go.Ground.phase }, { on := 4, ground := Go.Ground.phase }, { on := 5, ground := Go.Ground.phase }, { on := 6, ground := Go.Ground.phase }, { on := 7, ground := Go.Ground.phase }, { on := 8, ground := Go.Ground.phase }, { on := 9, ground := Go.Ground.phase }], guard := none }) (v := ?_) rfl (by kernel_rfl) (by kernel_rfl) (by kernel_rfl) (fun _ _ _ h => h) (Or.inl ⟨by rfl, ?_⟩) S3.out ?_
    rotate_left
    · intro W hW; (go_simp; try with_reducible rfl)
    try simp only [Act.put, List.setIfInBounds_toArray, List.set_cons_zero, List.set_cons_succ]
    refine wpAnyH_take (i := 11) (oi := { dst := some 9, op := Go.Op.assign (Go.Operand.const (Go.Value.int Go.IntKind.i64 0)), type := 40, pos := _, after := #[{ on := 10, ground := Go.Ground.chain }, { on := 0, ground := Go.Ground.phase }, { on := 1, ground := Go.Ground.phase }, { on := 2, ground := Go.Ground.phase }, { on := 3, ground := Go.Ground.phase }, { on := 4, ground := Go.Ground.phase }, { on := 5, ground := Go.Ground.phase }, { on := 6, ground := Go.Ground.phase }, { on := 7, ground := Go.Ground.phase }, { on := 8, ground := Go.Ground.phase }, { on := 9, ground := Go.Ground.phase }, { on := 10, ground := Go.Ground.phase }], guard := none }) (v := ?_) rfl (by kernel_rfl) (by kernel_rfl) (by kernel_rfl) (fun _ _ _ h => h) (Or.inl ⟨by rfl, ?_⟩) S3.out ?_
    rotate_left
    · intro W hW; (go_simp; try with_reducible rfl)
    try simp only [Act.put, List.setIfInBounds_toArray, List.set_cons_zero, List.set_cons_succ]
    refine wpAnyH_done (by kernel_rfl) ?_ _
    refine NoPanic.normal ?_
    go_wp2_with fail
    refine bodyPost_ret (results_tmp2 rfl _ _ _) rfl ?_
    exact ⟨⟨_, 1, 1, rfl, by rw [← HL.out]; exact rowN_own1 M5.out NO.out⟩, step_ B3.out S3.out⟩
  · have hb : (e0 != 0) = true := by simpa using h0
    obtain rfl : [] = l := by rw [← hl.out]; unfold putL; rw [if_neg (by rw [he.out]; exact h0)]
    clear he hl hv h0
    go_enter Try.func12, Try.ntmps12
    go_wp2_with fail
    refine (get_is A n cap a c v _ H0.out hn hc HV).mono ?_
    rintro e w1 ⟨rfl, b1⟩
    have B1 := Lib.hid (step_ B0.out b1)
    have NT1 := Lib.hid (NT0.out.below b1)
    have Z1 := Lib.hid (blk_alloc w1 26 (nmL M.zero8))
    clear b1
    go_wp2_with (first
      | (refine wpList_store_cs rfl 26 _ _ rfl w1.heap.size (nmL M.zero8) (nmL v.t) rfl rfl Z1.out (by unfold nmL; rw [List.length_map, List.length_map, VT.out]; rfl) (size_nmL VT.out) (nm_one v.t) ?_; intro w2 N2 O2; have BX := Lib.hid (box_below O2.out); have NT2 := Lib.hid (NT1.out.below BX.out))
      | (refine wpList_load_nm rfl _ rfl w.heap.size 0 t rfl NT2.out.range HT.out.1 ?_))
    have B2 := Lib.hid (step_ B1.out BX.out)
    refine (fault_is (vnum v) rep t e0 _ HT.out HE).mono ?_
    rintro e w3 ⟨rfl, b3⟩
    have B3 := Lib.hid (step_ B2.out b3)
    clear b3
    go_wp2_with fail
    refine bodyPost_ret (results_tmp2 rfl _ _ _) rfl ?_
    exact ⟨⟨none, 0, 0, rfl, rowV_nil _⟩, B3.out⟩
theorem newer_math {x y : Vl} (hx : x.Ok) (hy : y.Ok) : (!decide (x = y) && over x y) = !over y x := by
  rw [over_rn hx hy, over_rn hy hx]
  by_cases e : x = y
  · subst e; simp
  · have h1 : x.rn ≠ y.rn := fun q => e (rn_inj hx hy q)
    rw [decide_eq_false e]
    by_cases q : y.rn ≤ x.rn
    · rw [decide_eq_true q, decide_eq_false (by omega)]; rfl
    · rw [decide_eq_false q, decide_eq_true (by omega)]; rfl
set_option maxRecDepth 100000 in
theorem newer_is (x y : Vl) (b : Bool) (w : World) (hx : x.Ok) (hy : y.Ok) (hb : Hid ((!over y x) = b)) : Calls Try.prog 15 #[.agg x.cells.toArray, .agg y.cells.toArray] w fun e w' => e = .returned (.bool b) ∧ Below w.heap.size w w' := by
  have HX := Lib.hid hx
  have HY := Lib.hid hy
  have R1 := Lib.hid ((blk_alloc w 38 x.cells).alloc (.cells y.cells.toArray 38)).range
  have R2 := Lib.hid (blk2 w (.cells x.cells.toArray 38) 38 y.cells).range
  have B0 := Lib.hid (step_ (new_below w (.cells x.cells.toArray 38)) (new_below _ (.cells y.cells.toArray 38)))
  have HM := Lib.hid ((newer_math hx hy).trans hb.out)
  clear hx hy hb
  by_cases e : x = y
  · have HN := Lib.hid (show (!decide (x = y)) = false by simp [e])
    have HB := Lib.hid (show false = b by rw [← HM.out, HN.out]; rfl)
    clear e
    go_enter Try.func15, Try.ntmps15
    go_wp2_with (first
      | go_skip
      | (refine wpList_load_vl rfl _ rfl w.heap.size 0 x rfl R1.out HX.out.tl ?_)
      | (refine wpList_load_vl rfl _ rfl (w.heap.size + 1) 0 y rfl R2.out HY.out.tl ?_)
      | (refine wpList_val rfl _ (exec_neq_vl _ _ _ rfl x y rfl rfl HX.out.tl HY.out.tl) ?_; rw [HN.out]))
    go_ret
    exact ⟨ret_bool HB.out, B0.out⟩
  · have HN := Lib.hid (show (!decide (x = y)) = true by simp [e])
    have HB := Lib.hid (show over x y = b by rw [← HM.out, HN.out]; rfl)
    clear e
    go_enter Try.func15, Try.ntmps15
    go_wp2_with (first
      | (refine wpList_load_vl rfl _ rfl w.heap.size 0 x rfl R1.out HX.out.tl ?_)
      | (refine wpList_load_vl rfl _ rfl (w.heap.size + 1) 0 y rfl R2.out HY.out.tl ?_)
      | (refine wanted_on rfl ?_; refine wpList_load_vl rfl _ rfl w.heap.size 0 x rfl R1.out HX.out.tl ?_)
      | (refine wanted_on rfl ?_; refine wpList_load_vl rfl _ rfl (w.heap.size + 1) 0 y rfl R2.out HY.out.tl ?_)
      | (refine wpList_val rfl _ (exec_neq_vl _ _ _ rfl x y rfl rfl HX.out.tl HY.out.tl) ?_; rw [HN.out]))
    refine (over_is x y b _ HX.out HY.out HB).mono ?_
    rintro e w1 ⟨rfl, b1⟩
    have B1 := Lib.hid (step_ B0.out b1)
    clear b1
    go_wp2_with fail
    go_ret
    exact ⟨rfl, B1.out⟩
set_option maxRecDepth 100000 in
theorem refNewer_is (x y : Vl) (b : Bool) (w : World) (hx : x.Ok) (hy : y.Ok) (hb : Hid ((!over y x) = b)) : Calls Try.prog 16 #[.agg x.cells.toArray, .agg y.cells.toArray] w fun e w' => e = .returned (.bool b) ∧ Below w.heap.size w w' := by
  have HX := Lib.hid hx
  have HY := Lib.hid hy
  have R1 := Lib.hid ((blk_alloc w 38 x.cells).alloc (.cells y.cells.toArray 38)).range
  have R2 := Lib.hid (blk2 w (.cells x.cells.toArray 38) 38 y.cells).range
  have B0 := Lib.hid (step_ (new_below w (.cells x.cells.toArray 38)) (new_below _ (.cells y.cells.toArray 38)))
  clear hx hy
  obtain ⟨q, hq⟩ : ∃ q, over y x = q := ⟨_, rfl⟩
  have HQ := Lib.hid hq
  have HB := Lib.hid (show (!q) = b by rw [← hq]; exact hb.out)
  clear hq hb
  go_enter Try.func16, Try.ntmps16
  go_wp2_with (first
    | (refine wpList_load_vl rfl _ rfl w.heap.size 0 x rfl R1.out HX.out.tl ?_)
    | (refine wpList_load_vl rfl _ rfl (w.heap.size + 1) 0 y rfl R2.out HY.out.tl ?_))
  refine (refOver_is y x q _ HY.out HX.out HQ).mono ?_
  rintro e w1 ⟨rfl, b1⟩
  have B1 := Lib.hid (step_ B0.out b1)
  clear b1
  go_wp2_with fail
  go_ret
  exact ⟨ret_bool HB.out, B1.out⟩
end Go.Proofs.Ytgggjhbijnndhaa
namespace Go.Proofs.Ytgggjhbijnndhaa
open Go.RowKit

theorem put_num {n rep : Int} (hn : 0 ≤ n ∧ n < 4294967295) (hr : 0 ≤ rep ∧ rep < 16) :
    IntKind.u64.wrap (IntKind.u64.wrap (IntKind.u64.wrap (IntKind.u64.wrap n + 1) * 256) + rep) = noteN n rep := by
  have h1 := wrap_u64n (x := n) (by omega) (by omega)
  have h2 := wrap_u64n (x := n + 1) (by omega) (by omega)
  have h3 := wrap_u64n (x := (n + 1) * 256) (by omega) (by omega)
  have h5 := wrap_u64n (x := (n + 1) * 256 + rep) (by omega) (by omega)
  rw [h1, h2, h3, h5]; rfl
set_option maxRecDepth 100000 in
set_option maxHeartbeats 4000000 in
theorem nrefPut_is (A : Option Addr) (n cap : Nat) (a : List Am) (rep c : Int) (t : List Int) (e0 : Int) (l : List Am) (w : World) (h : RowV w A n cap a) (hn : n ≤ 600) (ht : NOk t) (hc : 0 ≤ c ∧ c < 65536) (hr : 0 ≤ rep ∧ rep < 256) (he : Hid (noteE (vnum (noteV a c)) rep t = e0)) (hl : Hid (putL a c rep t = l)) :
    Calls Try.prog 13 #[.slice A n cap, .int .u8 rep, .int .u16 c, .agg (nm t)] w (GivesRN w l e0) := by
  have HT := Lib.hid ht
  have H := Lib.hid h
  obtain ⟨v, hv⟩ : ∃ v, noteV a c = v := ⟨_, rfl⟩
  have HV := Lib.hid hv
  have VT := Lib.hid (show v.t.length = 8 by rw [← hv]; exact (noteV_ok h.ok c).tl)
  have Q0 := Lib.hid (blk_alloc w 26 (nmL t))
  have R0 := Lib.hid Q0.out.range
  have B0 := Lib.hid (new_below w (.cells (nm t) 26))
  have HL := hl
  have hz := zero23
  clear h ht hl
  by_cases hrb : 16 ≤ rep
  · obtain rfl : 1 = e0 := (noteE_rep hrb).symm.trans he.out
    obtain rfl : [] = l := by rw [← HL.out]; unfold putL; rw [if_neg (by rw [he.out]; decide)]
    clear he HL hv
    go_enter Try.func13, Try.ntmps13
    go_wp2_with go_skip
    refine bodyPost_ret (results_tmp2 rfl _ _ _) rfl ?_
    exact ⟨⟨none, 0, 0, rfl, rowV_nil _⟩, B0.out⟩
  · by_cases hz8 : t = M.zero8
    · have HS := Lib.hid (show (!(t == M.zero8)) = false by simp [hz8])
      have HE := Lib.hid ((noteE_rest hrb (.inl hz8)).symm.trans (show noteE (vnum v) rep t = e0 by rw [← hv]; exact he.out))
      clear hz8 hv
      go_enter Try.func13, Try.ntmps13
      go_wp2_with (first
        | go_skip
        | (refine wanted_on rfl ?_; refine wpList_load_nm rfl _ rfl w.heap.size 0 t rfl R0.out HT.out.1 ?_)
        | (refine wanted_on rfl ?_; refine wpList_build rfl 26 _ rfl [] rfl _ built24z ?_)
        | (refine wanted_on rfl ?_; refine wpList_val rfl _ (exec_neq_nm _ _ _ rfl t M.zero8 rfl rfl HT.out.1 rfl) ?_; rw [HS.out]))
      refine (refGet_is A n cap a c v _ (H.out.below B0.out) (by omega) hc HV).mono ?_
      rintro e w3 ⟨rfl, b3⟩
      have B3 := Lib.hid (step_ B0.out b3)
      have R3 := Lib.hid (Q0.out.below b3)
      have Z3 := Lib.hid (blk_alloc w3 26 (nmL M.zero8))
      clear b3
      by_cases h0 : vnum v = 4294967295
      · obtain rfl : 8 = e0 := by rw [← HE.out, if_pos h0]
        obtain rfl : [] = l := by rw [← HL.out]; unfold putL; rw [if_neg]; rw [he.out]; decide
        have VN := Lib.hid h0
        rw [h0]
        clear h0 he HL HE
        go_wp2_with (first
          | (refine wpList_store_cs rfl 26 _ _ rfl w3.heap.size (nmL M.zero8) (nmL v.t) rfl rfl Z3.out (by unfold nmL; rw [List.length_map, List.length_map, VT.out]; rfl) (size_nmL VT.out) (nm_one v.t) ?_; intro w4 N4 O4; have BX := Lib.hid (box_below O4.out)))
        refine bodyPost_ret (results_tmp2 rfl _ _ _) rfl ?_
        exact ⟨⟨none, 0, 0, rfl, rowV_nil _⟩, step_ B3.out BX.out⟩
      · have hmb : (vnum v == 4294967295) = false := by simpa using h0
        obtain rfl : 0 = e0 := by rw [← HE.out, if_neg h0]
        have PP := noteE_zero (show noteE (vnum v) rep t = 0 by rw [← HV.out]; exact he.out)
        have PN := Lib.hid (show 0 ≤ vnum v ∧ vnum v < 4294967295 by have := vnum_r v; have := PP.2.2; omega)
        have PR := Lib.hid (show 0 ≤ rep ∧ rep < 16 from ⟨hr.1, PP.1⟩)
        have NO := Lib.hid (noteA_ok hc PN.out PR.out HT.out)
        have HL2 := Lib.hid (show [noteA c (vnum v) rep t] = l by rw [← HL.out, ← HV.out]; unfold putL; rw [if_pos he.out])
        have AR := Lib.hid (put_num PN.out PR.out)
        clear h0 he HL HE PP
        go_wp2_with (first
          | (refine wpList_store_cs rfl 26 _ _ rfl w3.heap.size (nmL M.zero8) (nmL v.t) rfl rfl Z3.out (by unfold nmL; rw [List.length_map, List.length_map, VT.out]; rfl) (size_nmL VT.out) (nm_one v.t) ?_; intro w4 N4 O4; have BX := Lib.hid (box_below O4.out); have R4 := Lib.hid (R3.out.below BX.out))
          | (refine wpList_build rfl 55 _ rfl [(0, .int .u8 4), (1, .int .u16 c)] rfl _ (built_nk c) ?_)
          | (refine wpList_load_nm rfl _ rfl w.heap.size 0 t rfl R4.out.range HT.out.1 ?_)
          | (refine wpList_build rfl 38 _ rfl [(0, .int .u64 (noteN (vnum v) rep)), (1, .agg (nm t))] (by rw [← AR.out]; rfl) _ (built30_2 _ HT.out.1) ?_)
          | (refine wpList_build rfl 63 _ rfl [(0, .agg (noteK c).cells.toArray), (1, .agg (⟨noteN (vnum v) rep, t⟩ : Vl).cells.toArray)] rfl _ (built46 (noteK c) ⟨noteN (vnum v) rep, t⟩ rfl HT.out.1) ?_)
          | (refine wpList_one46 rfl _ rfl (noteA c (vnum v) rep t) rfl NO.out ?_; intro g5 w5 e5 N5 B5))
        refine bodyPost_ret (results_tmp2 rfl _ _ _) rfl ?_
        exact ⟨⟨_, 1, 1, rfl, by rw [← HL2.out]; exact rowN_own1 N5.out NO.out⟩, step_ (step_ B3.out BX.out) B5.out⟩
    · have HS := Lib.hid (show (!(t == M.zero8)) = true by simp [hz8])
      cases hq : M.rightB t with
      | false =>
        obtain rfl : 1 = e0 := (noteE_text hz8 hq).symm.trans he.out
        obtain rfl : [] = l := by rw [← HL.out]; unfold putL; rw [if_neg (by rw [he.out]; decide)]
        have HQ := Lib.hid hq
        clear he hq HL hv hz8
        go_enter Try.func13, Try.ntmps13
        go_wp2_with (first
          | go_skip
          | (refine wanted_on rfl ?_; refine wpList_load_nm rfl _ rfl w.heap.size 0 t rfl R0.out HT.out.1 ?_)
          | (refine wanted_on rfl ?_; refine wpList_build rfl 26 _ rfl [] rfl _ built24z ?_)
          | (refine wanted_on rfl ?_; refine wpList_val rfl _ (exec_neq_nm _ _ _ rfl t M.zero8 rfl rfl HT.out.1 rfl) ?_; rw [HS.out]))
        refine (refRight_is t false _ HT.out.1 (Lib.hid HT.out.2) HQ).mono ?_
        rintro e w1 ⟨rfl, b1⟩
        have B1 := Lib.hid (step_ B0.out b1)
        clear b1
        go_wp2_with go_skip
        refine bodyPost_ret (results_tmp2 rfl _ _ _) rfl ?_
        exact ⟨⟨none, 0, 0, rfl, rowV_nil _⟩, B1.out⟩
      | true =>
        have HE := Lib.hid ((noteE_rest hrb (.inr hq)).symm.trans (show noteE (vnum v) rep t = e0 by rw [← hv]; exact he.out))
        have HQ := Lib.hid hq
        clear hq hz8 hv
        go_enter Try.func13, Try.ntmps13
        go_wp2_with (first
          | go_skip
          | (refine wanted_on rfl ?_; refine wpList_load_nm rfl _ rfl w.heap.size 0 t rfl R0.out HT.out.1 ?_)
          | (refine wanted_on rfl ?_; refine wpList_build rfl 26 _ rfl [] rfl _ built24z ?_)
          | (refine wanted_on rfl ?_; refine wpList_val rfl _ (exec_neq_nm _ _ _ rfl t M.zero8 rfl rfl HT.out.1 rfl) ?_; rw [HS.out]))
        refine (refRight_is t true _ HT.out.1 (Lib.hid HT.out.2) HQ).mono ?_
        rintro e w1 ⟨rfl, b1⟩
        have B1 := Lib.hid (step_ B0.out b1)
        have Q1 := Lib.hid (Q0.out.below b1)
        clear b1
        go_wp2_with go_skip
        refine (refGet_is A n cap a c v _ (H.out.below B1.out) (by omega) hc HV).mono ?_
        rintro e w3 ⟨rfl, b3⟩
        have B3 := Lib.hid (step_ B1.out b3)
        have R3 := Lib.hid (Q1.out.below b3)
        have Z3 := Lib.hid (blk_alloc w3 26 (nmL M.zero8))
        clear b3
        by_cases h0 : vnum v = 4294967295
        · obtain rfl : 8 = e0 := by rw [← HE.out, if_pos h0]
          obtain rfl : [] = l := by rw [← HL.out]; unfold putL; rw [if_neg]; rw [he.out]; decide
          have VN := Lib.hid h0
          rw [h0]
          clear h0 he HL HE
          go_wp2_with (first
            | (refine wpList_store_cs rfl 26 _ _ rfl w3.heap.size (nmL M.zero8) (nmL v.t) rfl rfl Z3.out (by unfold nmL; rw [List.length_map, List.length_map, VT.out]; rfl) (size_nmL VT.out) (nm_one v.t) ?_; intro w4 N4 O4; have BX := Lib.hid (box_below O4.out)))
          refine bodyPost_ret (results_tmp2 rfl _ _ _) rfl ?_
          exact ⟨⟨none, 0, 0, rfl, rowV_nil _⟩, step_ B3.out BX.out⟩
        · have hmb : (vnum v == 4294967295) = false := by simpa using h0
          obtain rfl : 0 = e0 := by rw [← HE.out, if_neg h0]
          have PP := noteE_zero (show noteE (vnum v) rep t = 0 by rw [← HV.out]; exact he.out)
          have PN := Lib.hid (show 0 ≤ vnum v ∧ vnum v < 4294967295 by have := vnum_r v; have := PP.2.2; omega)
          have PR := Lib.hid (show 0 ≤ rep ∧ rep < 16 from ⟨hr.1, PP.1⟩)
          have NO := Lib.hid (noteA_ok hc PN.out PR.out HT.out)
          have HL2 := Lib.hid (show [noteA c (vnum v) rep t] = l by rw [← HL.out, ← HV.out]; unfold putL; rw [if_pos he.out])
          have AR := Lib.hid (put_num PN.out PR.out)
          clear h0 he HL HE PP
          go_wp2_with (first
            | (refine wpList_store_cs rfl 26 _ _ rfl w3.heap.size (nmL M.zero8) (nmL v.t) rfl rfl Z3.out (by unfold nmL; rw [List.length_map, List.length_map, VT.out]; rfl) (size_nmL VT.out) (nm_one v.t) ?_; intro w4 N4 O4; have BX := Lib.hid (box_below O4.out); have R4 := Lib.hid (R3.out.below BX.out))
            | (refine wpList_build rfl 55 _ rfl [(0, .int .u8 4), (1, .int .u16 c)] rfl _ (built_nk c) ?_)
            | (refine wpList_load_nm rfl _ rfl w.heap.size 0 t rfl R4.out.range HT.out.1 ?_)
            | (refine wpList_build rfl 38 _ rfl [(0, .int .u64 (noteN (vnum v) rep)), (1, .agg (nm t))] (by rw [← AR.out]; rfl) _ (built30_2 _ HT.out.1) ?_)
            | (refine wpList_build rfl 63 _ rfl [(0, .agg (noteK c).cells.toArray), (1, .agg (⟨noteN (vnum v) rep, t⟩ : Vl).cells.toArray)] rfl _ (built46 (noteK c) ⟨noteN (vnum v) rep, t⟩ rfl HT.out.1) ?_)
            | (refine wpList_one46 rfl _ rfl (noteA c (vnum v) rep t) rfl NO.out ?_; intro g5 w5 e5 N5 B5))
          refine bodyPost_ret (results_tmp2 rfl _ _ _) rfl ?_
          exact ⟨⟨_, 1, 1, rfl, by rw [← HL2.out]; exact rowN_own1 N5.out NO.out⟩, step_ (step_ B3.out BX.out) B5.out⟩
end Go.Proofs.Ytgggjhbijnndhaa
