/- Carts of the reference. Written by wip/tools/cref_r17.py. -/
import Derived.Test.YtijfbhdbfplghaaGreatG01
import Derived.Test.YtijfbhdbfplghaaGreatG46
import Derived.Test.YtijfbhdbfplghaaGreatG50
import Derived.Test.YtijfbhdbfplghaaGreatG28
import Derived.Test.YtijfbhdbfplghaaGreatG23
import Derived.Deep.CutRange
import Derived.Deep.CutBlock
namespace Go.Proofs.YtijfbhdbfplghaaGreat
open Go.RowKit Go.Shelf
attribute [local go_sem] Oper.semAt_some
def lenV : Value → Nat
  | .slice _ n _ => n
  | _ => 0
theorem exec_lt23 {o : Oper} {a : Act} {w : World} (x y : Operand) (ho : o.op = .binOp .lss 23 x y 23) (p q : Int) (b : Bool) (hx : a.eval x = .int .u16 p) (hy : a.eval y = .int .u16 q) (hb : decide (p < q) = b) : (execOp a.eval o).run Tryz.prog w = .ok (.value (.bool b)) w := by
  subst hb
  unfold execOp
  simp only [ho, hx, hy]
  go_simp
theorem exec_gt23 {o : Oper} {a : Act} {w : World} (x y : Operand) (ho : o.op = .binOp .gtr 23 x y 23) (p q : Int) (b : Bool) (hx : a.eval x = .int .u16 p) (hy : a.eval y = .int .u16 q) (hb : decide (q < p) = b) : (execOp a.eval o).run Tryz.prog w = .ok (.value (.bool b)) w := by
  subst hb
  unfold execOp
  simp only [ho, hx, hy]
  go_simp
theorem built_none : Tryz.prog.built 25 [] = some (nm M.zero8) := by kernel_rfl
theorem ready_alloc53 {ops : Array Oper} {Q : Exit → Act → World → Prop} {md : Region.Mode} {S : World → Prop} {fuel : Nat} {listed : Array Bool} {a : Act} {w : World} {i : Nat} {o : Oper} {rs : List Nat} (ho : ops[i]? = some o) (hg : o.guard = none) (hop : o.op = .alloc 53)
    (h : ∀ g w', g = w.heap.size → Blk w' g 53 kzero.cells → Below w.heap.size w w' → S w' ∧ wpAnyH Tryz.prog md ops Q S fuel (listed.setIfInBounds i true) (a.put o.dst (.pointer (some ⟨g, 0, none⟩))) w')
    (hs : AllReadyH Tryz.prog md ops Q S fuel listed a w rs) : AllReadyH Tryz.prog md ops Q S fuel listed a w (i :: rs) := by
  refine AllReadyH.cons ho (fun K hK => ?_) hs
  have hw : Region.wanted o (yielded ops a.tmps) = true := by simp [Region.wanted, hg]
  rw [if_pos hw]
  have hz := zero27
  have H := h w.heap.size (w.alloc (.cells kzero.cells.toArray 53)) rfl (blk_alloc w 53 kzero.cells) (new_below w _)
  unfold Oper.wp execOp
  simp [hop, Instr.alloc, hz]
  exact hK.out _ _ H.1 (fun _ => H.2)
theorem lowF_yes {out : List Int} {o : Option Int} {x : Am} (h : (cand out x && (!o.isSome || decide (x.k.c < o.getD 0))) = true) : lowF out o x = some x.k.c := by
  rw [Bool.and_eq_true] at h
  unfold lowF
  rw [if_pos h.1]
  cases o with
  | none => rfl
  | some y => dsimp only; rw [if_pos (by simpa using h.2)]
theorem lowF_no {out : List Int} {o : Option Int} {x : Am} (h : (cand out x && (!o.isSome || decide (x.k.c < o.getD 0))) = false) : lowF out o x = o := by
  unfold lowF
  by_cases hc : cand out x = true
  · rw [if_pos hc]
    rw [hc, Bool.true_and] at h
    cases o with
    | none => simp at h
    | some y => dsimp only; rw [if_neg (by simpa using h)]
  · rw [if_neg hc]
theorem last_is {o : Option Int} {sb : Bool} {lo : Int} (h1 : o.isSome = sb) (h2 : o.getD 0 = lo) : o = if sb = true then some lo else none := by
  cases o with
  | none => rw [← h1]; rfl
  | some y => rw [← h1, ← h2]; rfl
set_option maxRecDepth 100000 in
set_option maxHeartbeats 16000000 in
theorem refCarts_is (A : Option Addr) (n cap : Nat) (a : List Am) (w : World) (h : RowV w A n cap a) (hl : n ≤ 600) : Calls Tryz.prog 14 #[.slice A n cap] w fun e w' => (∃ v, e = .returned v ∧ OwnN w' w.heap.size v (cartsQ a)) ∧ Below w.heap.size w w' := by
  have H := Lib.hid h
  have OA := Lib.hid h.ok
  have CL := Lib.hid (cartsQ_len h.ok)
  clear h
  go_enter Tryz.func14, Tryz.ntmps14
  go_wp2_with fail
  refine (refNorm_is A n cap a _ H.out (by omega)).mono ?_
  rintro e w1 ⟨⟨A1, n1, c1, rfl, r1⟩, b1⟩
  have R1 := Lib.hid r1
  have J6 : n1 ≤ 600 := by have h1 := r1.len; have h2 := norm_len a; have h3 := H.out.len; omega
  have B1 := Lib.hid b1
  have CN := Lib.hid (show (cartsQ a).length ≤ n1 by have h1 := r1.len; have h2 := CL.out; omega)
  clear r1 b1
  go_wp2_with fail
  go_loopw [3] (fun o wr => ∃ (j : Nat) (Ao : Option Addr) (co : Nat), j ≤ (cartsQ a).length ∧ o = .slice Ao j co ∧ OwnN wr w1.heap.size o ((cartsQ a).take j) ∧ Below w1.heap.size w1 wr) (fun o _ => (cartsQ a).length - lenV o)
  case atStart => exact ⟨0, none, 0, Nat.zero_le _, rfl, ownN_nil _ _, Below.refl _ _⟩
  case round =>
    rename World => wO
    obtain ⟨j, Ao, co, hj, rfl, ho, hb⟩ := hrel
    have OO := Lib.hid ho
    have BB := Lib.hid hb
    have HJ := Lib.hid hj
    have TL := Lib.hid (show ((cartsQ a).take j).length = j by rw [List.length_take]; omega)
    have J7 : j ≤ 600 := by have := CN.out; omega
    clear ho hb hj
    by_cases hn1 : 0 < n1
    · have HN1 := Lib.hid hn1
      go_wp2_with (first
        | go_skip
        | (refine wpList_val rfl _ (exec_lt _ _ rfl 0 (n1 : Int) true rfl rfl (decide_eq_true (by omega))) ?_))
      go_loopw [7, 5, 6] (fun i lo sm wr2 => ∃ (k : Nat) (o : Option Int), k ≤ n1 ∧ lowQ ((cartsQ a).take j) ((norm a).take k) = o ∧ i = .int .i64 (k : Int) ∧ lo = .int .u16 (o.getD 0) ∧ sm = .bool o.isSome ∧ Below wO.heap.size wO wr2) (fun i _ _ _ => n1 - (intOf i).toNat)
      case atStart => exact ⟨0, none, Nat.zero_le _, rfl, rfl, rfl, rfl, Below.refl _ _⟩
      case round =>
        obtain ⟨k, o, hk, hlo, rfl, rfl, rfl, hb2⟩ := hrel
        have LQ := Lib.hid hlo
        have B2 := Lib.hid hb2
        have HK := Lib.hid hk
        obtain ⟨sb, hsb⟩ : ∃ sb, o.isSome = sb := ⟨_, rfl⟩
        obtain ⟨lo, hlo2⟩ : ∃ lo, o.getD 0 = lo := ⟨_, rfl⟩
        have OE := Lib.hid (last_is hsb hlo2)
        have SB := Lib.hid hsb
        have LO := Lib.hid hlo2
        simp only [hsb, hlo2]
        clear hlo hb2 hk hsb hlo2
        by_cases hlt : k < n1
        · have HLT := Lib.hid hlt
          obtain ⟨G, p, hE⟩ := ((R1.out.below BB.out).below B2.out).elem k hlt
          have TK := Lib.hid (take_getD (l := norm a) (j := k) (by have := R1.out.len; omega))
          obtain ⟨x, hx⟩ : ∃ x, (norm a).getD k azero = x := ⟨_, rfl⟩
          rw [hx] at hE TK
          have E := Lib.hid hE
          have XO := Lib.hid hE.ok
          clear hE hx
          go_upto_region 9 with (first
            | go_skip
            | (refine wpList_val rfl _ (exec_lt _ _ rfl (k : Int) (n1 : Int) true rfl rfl (decide_eq_true (by omega))) ?_))
          try simp only [Act.put, stA, stZ, stS]
          go_cut [8, 9] from 17 to 80 (fun pk pv wx => ∃ gk gv, pk = .pointer (some ⟨gk, 0, none⟩) ∧ pv = .pointer (some ⟨gv, 0, none⟩) ∧ Blk wx gk 53 x.k.cells ∧ Blk wx gv 56 x.v.cells ∧ Below wr.heap.size wr wx)
          case first =>
            have S0 := Lib.hid (below_drew (Below.refl wr.heap.size wr))
            refine wp_region_noPanic ?_
            refine wp_region_held_drew (S := fun W => Below wr.heap.size wr W) (by kernel_rfl) S0.out (fun _ => ?_)
            refine tkm 0 rfl S0.out ?_; try simp only [Act.put, stA, stZ, stS]
            refine tkm 1 rfl S0.out ?_; try simp only [Act.put, stA, stZ, stS]
            refine tkv 2 (.pointer (some ⟨G, p, none⟩)) rfl (fun W hW => exec_index _ _ rfl A1 n1 c1 G p k x _ rfl rfl (by first | rfl | omega) E.out) S0.out ?_; try simp only [Act.put, stA, stZ, stS]
            refine tkm 3 rfl S0.out ?_; try simp only [Act.put, stA, stZ, stS]
            refine tky 4 (.agg (x.k.cells).toArray) rfl (yieldsIf_load_mid (by rfl) 53 (.tmp 26) rfl G p rfl (x.k.cells) _ (fun W hW => range_ak (E.out.below hW).rg) Tryz.underlying53 rfl (size27 XO.out.k.ml)) S0.out ?_; try simp only [Act.put, stA, stZ, stS]
            refine tkm 5 rfl S0.out ?_; try simp only [Act.put, stA, stZ, stS]
            refine tkm 6 rfl S0.out ?_; try simp only [Act.put, stA, stZ, stS]
            refine tkv 7 (.pointer (some ⟨G, p, none⟩)) rfl (fun W hW => exec_index _ _ rfl A1 n1 c1 G p k x _ rfl rfl (by first | rfl | omega) E.out) S0.out ?_; try simp only [Act.put, stA, stZ, stS]
            refine tkm 8 rfl S0.out ?_; try simp only [Act.put, stA, stZ, stS]
            refine tky 9 (.agg (x.v.cells).toArray) rfl (yieldsIf_load_mid (by rfl) 56 (.tmp 31) rfl G (p + 12) rfl (x.v.cells) _ (fun W hW => range_av (E.out.below hW).rg XO.out) Tryz.underlying56 rfl (size30 XO.out.v.tl)) S0.out ?_; try simp only [Act.put, stA, stZ, stS]
            refine rdy [10, 11] ?_
            refine ready_alloc53 (arR rfl) rfl rfl (fun g1 w1 e1 n1 b1 => ?_) ?_
            · have S1 := Lib.hid (step_ S0.out b1)
              have L1 := Lib.hid (show wr.heap.size ≤ g1 by rw [e1]; exact (S0.out).size)
              have N1 := Lib.hid n1
              clear e1 n1 b1
              refine ⟨S1.out, ?_⟩
              try simp only [Act.put, stA, stZ, stS]
              refine rdy [11] ?_
              refine ready_alloc32 (arR rfl) rfl rfl (fun g2 w2 e2 n2 b2 => ?_) AllReadyH.nil
              have S2 := Lib.hid (step_ S1.out b2)
              have L2 := Lib.hid (show wr.heap.size ≤ g2 by rw [e2]; exact (S1.out).size)
              have N2 := Lib.hid n2
              have NE := Lib.hid (show g2 ≠ g1 by have := (N1.out).lt; rw [e2]; omega)
              have K_2 := Lib.hid ((N1.out).below b2)
              clear e2 n2 b2
              refine ⟨S2.out, ?_⟩
              try simp only [Act.put, stA, stZ, stS]
              refine rdy [12] ?_
              refine ready_store_cs (arR rfl) rfl 53 (.tmp 8) (.tmp 27) rfl g1 kzero.cells x.k.cells rfl rfl K_2.out (by rw [kcells_len kzero_ok.ml, kcells_len XO.out.k.ml]) (size27 XO.out.k.ml) (one27 x.k) (fun W3 N3 Q3 => ?_) AllReadyH.nil
              have M3 := Lib.hid N3
              have S3 := Lib.hid ((S2.out).trans (Q3.below L1.out (S2.out).size))
              have V_3 := Lib.hid ((N2.out).only Q3 NE.out)
              clear N3 Q3
              refine ⟨S3.out, ?_⟩
              try simp only [Act.put]
              refine rdy [13] ?_
              refine ready_store_cs (arR rfl) rfl 56 (.tmp 9) (.tmp 32) rfl g2 vzero.cells x.v.cells rfl rfl V_3.out (by rw [vcells_len rfl, vcells_len XO.out.v.tl]) (size30 XO.out.v.tl) (one30 x.v) (fun W4 N4 Q4 => ?_) AllReadyH.nil
              have M4 := Lib.hid N4
              have S4 := Lib.hid ((S3.out).trans (Q4.below L2.out (S3.out).size))
              have K_4 := Lib.hid ((M3.out).only Q4 (fun e => NE.out e.symm))
              clear N4 Q4
              refine ⟨S4.out, ?_⟩
              try simp only [Act.put]
              refine wpAnyH_done (by kernel_rfl) ?_ _
              refine NoPanic.normal ?_
              go_wp2_with fail
              go_meet
              case rel => exact ⟨g1, g2, rfl, rfl, K_4.out, M4.out, S4.out⟩
            refine ready_alloc32 (arR rfl) rfl rfl (fun g5 w5 e5 n5 b5 => ?_) AllReadyH.nil
            have S5 := Lib.hid (step_ S0.out b5)
            have L5 := Lib.hid (show wr.heap.size ≤ g5 by rw [e5]; exact (S0.out).size)
            have N5 := Lib.hid n5
            clear e5 n5 b5
            refine ⟨S5.out, ?_⟩
            try simp only [Act.put, stA, stZ, stS]
            refine rdy [10] ?_
            refine ready_alloc53 (arR rfl) rfl rfl (fun g6 w6 e6 n6 b6 => ?_) AllReadyH.nil
            have S6 := Lib.hid (step_ S5.out b6)
            have L6 := Lib.hid (show wr.heap.size ≤ g6 by rw [e6]; exact (S5.out).size)
            have N6 := Lib.hid n6
            have NE := Lib.hid (show g6 ≠ g5 by have := (N5.out).lt; rw [e6]; omega)
            have V_6 := Lib.hid ((N5.out).below b6)
            clear e6 n6 b6
            refine ⟨S6.out, ?_⟩
            try simp only [Act.put, stA, stZ, stS]
            refine rdy [12] ?_
            refine ready_store_cs (arR rfl) rfl 53 (.tmp 8) (.tmp 27) rfl g6 kzero.cells x.k.cells rfl rfl N6.out (by rw [kcells_len kzero_ok.ml, kcells_len XO.out.k.ml]) (size27 XO.out.k.ml) (one27 x.k) (fun W7 N7 Q7 => ?_) AllReadyH.nil
            have M7 := Lib.hid N7
            have S7 := Lib.hid ((S6.out).trans (Q7.below L6.out (S6.out).size))
            have V_7 := Lib.hid ((V_6.out).only Q7 (fun e => NE.out e.symm))
            clear N7 Q7
            refine ⟨S7.out, ?_⟩
            try simp only [Act.put]
            refine rdy [13] ?_
            refine ready_store_cs (arR rfl) rfl 56 (.tmp 9) (.tmp 32) rfl g5 vzero.cells x.v.cells rfl rfl V_7.out (by rw [vcells_len rfl, vcells_len XO.out.v.tl]) (size30 XO.out.v.tl) (one30 x.v) (fun W8 N8 Q8 => ?_) AllReadyH.nil
            have M8 := Lib.hid N8
            have S8 := Lib.hid ((S7.out).trans (Q8.below L5.out (S7.out).size))
            have K_8 := Lib.hid ((M7.out).only Q8 NE.out)
            clear N8 Q8
            refine ⟨S8.out, ?_⟩
            try simp only [Act.put]
            refine wpAnyH_done (by kernel_rfl) ?_ _
            refine NoPanic.normal ?_
            go_wp2_with fail
            go_meet
            case rel => exact ⟨g6, g5, rfl, rfl, K_8.out, M8.out, S8.out⟩
          case rest =>
            obtain ⟨gk, gv, rfl, rfl, hK, hV, hb3⟩ := hcut
            have KB := Lib.hid hK
            have VB := Lib.hid hV
            have B3 := Lib.hid hb3
            clear hK hV hb3
            have c0k := KB.out.cell (i := 0) (kc0 x.k)
            have c0v := VB.out.cell (i := 0) (vc0 x.v)
            have VN := Lib.hid (range_vnm VB.out.range)
            go_upto_region 10 with fail
            try simp only [Act.put, stA, stZ, stS]
            go_cut [10] from 17 to 80 (fun f wx => f = .bool (fullB x) ∧ wx = wc)
            case first =>
              by_cases h1 : x.k.s = 1
              · have e1 : (x.k.s == 1) = true := by simp [h1]
                have e4 : (x.k.s == 4) = false := by rw [h1]; rfl
                by_cases h2 : x.v.n = 1
                · have e2 : (x.v.n == 1) = true := by simp [h2]
                  have FB := Lib.hid (show fullB x = true by simp [fullB, h1, h2])
                  clear h1 h2
                  go_wp2_with go_skip
                  go_meet
                  case rel => exact ⟨by rw [FB.out], rfl⟩
                · have e2 : (x.v.n == 1) = false := by simp [h2]
                  have FB := Lib.hid (show fullB x = false by simp [fullB, h1, h2])
                  clear h1 h2
                  go_wp2_with go_skip
                  go_meet
                  case rel => exact ⟨by rw [FB.out], rfl⟩
              · have e1 : (x.k.s == 1) = false := by simp [h1]
                by_cases h4 : x.k.s = 4
                · have e4 : (x.k.s == 4) = true := by simp [h4]
                  obtain ⟨z, hz⟩ : ∃ z, (!(x.v.t == M.zero8)) = z := ⟨_, rfl⟩
                  have TZ := Lib.hid hz
                  have FB := Lib.hid (show fullB x = z by rw [← hz]; simp [fullB, h4])
                  clear h1 h4 hz
                  go_wp2_with (first
                    | go_skip
                    | (refine wanted_on rfl ?_; refine wpList_load_nm rfl _ rfl gv 1 x.v.t rfl VN.out XO.out.v.tl ?_)
                    | (refine wanted_on rfl ?_; refine wpList_build rfl 25 _ rfl [] rfl _ built_none ?_)
                    | (refine wanted_on rfl ?_; refine wpList_val rfl _ (exec_neq_nm _ _ _ rfl x.v.t M.zero8 rfl rfl XO.out.v.tl rfl) ?_; rw [TZ.out]))
                  go_meet
                  case rel => exact ⟨by rw [FB.out], rfl⟩
                · have e4 : (x.k.s == 4) = false := by simp [h4]
                  have FB := Lib.hid (show fullB x = false by simp [fullB, h1, h4])
                  clear h1 h4
                  go_wp2_with go_skip
                  go_meet
                  case rel => exact ⟨by rw [FB.out], rfl⟩
            case rest =>
              obtain ⟨rfl, rfl⟩ := hcut
              obtain ⟨fb, hfb⟩ : ∃ fb, fullB x = fb := ⟨_, rfl⟩
              have FB := Lib.hid hfb
              obtain ⟨lb, hlb⟩ : ∃ lb, decide (x.k.c < lo) = lb := ⟨_, rfl⟩
              have LB := Lib.hid hlb
              obtain ⟨zz, hzz⟩ : ∃ zz, (cand ((cartsQ a).take j) x && (!o.isSome || decide (x.k.c < o.getD 0))) = zz := ⟨_, rfl⟩
              have ZZ0 := Lib.hid hzz
              have ZZ := Lib.hid (show (cand ((cartsQ a).take j) x && (!sb || lb)) = zz by rw [← hzz, SB.out, LO.out, hlb])
              simp only [hfb]
              have c1k := KB.out.cell (i := 1) (kc1 x.k)
              have OW := Lib.hid (OO.out.below (step_ B2.out B3.out))
              clear hfb hlb hzz c0k c0v
              go_upto_region 11 with fail
              try simp only [Act.put, stA, stZ, stS]
              go_cut [78] from 17 to 80 (fun z wx => z = .bool zz ∧ Below wc.heap.size wc wx)
              case first =>
                cases fb with
                | false =>
                  have ZE := Lib.hid (show zz = false by rw [← ZZ.out]; unfold cand; rw [FB.out]; simp)
                  refine region_later (by kernel_rfl) (by kernel_rfl) ?_
                  repeat (first
                    | go_big_quiet_skip
                    | (go_big_quiet_want; refine quiet_load_i Tryz.underlying23 gk 1 x.k.c _ rfl rfl c1k ?_; go_simp; go_big_quiet_on)
                    | (go_big_quiet_want; refine quiet_val _ (fun _ => exec_lt23 _ _ rfl x.k.c lo _ rfl rfl LB.out) ?_; go_simp; go_big_quiet_on)
                    | go_big_quiet_step (fail))
                  refine wpQuiet_nil ?_
                  intro w5 hw5
                  go_wp2
                  go_meet
                  case rel => exact ⟨by rw [ZE.out], hw5⟩
                | true =>
                  rcases Nat.eq_zero_or_pos j with hj0 | hj0
                  · have E0 : ((j : Int) == 0) = true := by simp [hj0]
                    have CD := Lib.hid (show cand ((cartsQ a).take j) x = true by unfold cand; rw [FB.out, decide_eq_true (show ((cartsQ a).take j).length = 0 by rw [hj0]; rfl)]; rfl)
                    clear hj0
                    cases sb with
                    | false =>
                      have ZE := Lib.hid (show zz = true by rw [← ZZ.out]; simp [CD.out])
                      clear SB
                      refine region_later (by kernel_rfl) (by kernel_rfl) ?_
                      repeat (first
                        | go_big_quiet_skip
                        | (go_big_quiet_want; refine quiet_load_i Tryz.underlying23 gk 1 x.k.c _ rfl rfl c1k ?_; go_simp; go_big_quiet_on)
                        | (go_big_quiet_want; refine quiet_val _ (fun _ => exec_lt23 _ _ rfl x.k.c lo _ rfl rfl LB.out) ?_; go_simp; go_big_quiet_on)
                        | go_big_quiet_step (fail))
                      refine wpQuiet_nil ?_
                      intro w5 hw5
                      go_wp2
                      go_meet
                      case rel => exact ⟨by rw [ZE.out], hw5⟩
                    | true =>
                      cases lb with
                      | false =>
                        have ZE := Lib.hid (show zz = false by rw [← ZZ.out]; simp)
                        clear SB
                        refine region_later (by kernel_rfl) (by kernel_rfl) ?_
                        repeat (first
                          | go_big_quiet_skip
                          | (go_big_quiet_want; refine quiet_load_i Tryz.underlying23 gk 1 x.k.c _ rfl rfl c1k ?_; go_simp; go_big_quiet_on)
                          | (go_big_quiet_want; refine quiet_val _ (fun _ => exec_lt23 _ _ rfl x.k.c lo _ rfl rfl LB.out) ?_; go_simp; go_big_quiet_on)
                          | go_big_quiet_step (fail))
                        refine wpQuiet_nil ?_
                        intro w5 hw5
                        go_wp2
                        go_meet
                        case rel => exact ⟨by rw [ZE.out], hw5⟩
                      | true =>
                        have ZE := Lib.hid (show zz = true by rw [← ZZ.out]; simp [CD.out])
                        clear SB
                        refine region_later (by kernel_rfl) (by kernel_rfl) ?_
                        repeat (first
                          | go_big_quiet_skip
                          | (go_big_quiet_want; refine quiet_load_i Tryz.underlying23 gk 1 x.k.c _ rfl rfl c1k ?_; go_simp; go_big_quiet_on)
                          | (go_big_quiet_want; refine quiet_val _ (fun _ => exec_lt23 _ _ rfl x.k.c lo _ rfl rfl LB.out) ?_; go_simp; go_big_quiet_on)
                          | go_big_quiet_step (fail))
                        refine wpQuiet_nil ?_
                        intro w5 hw5
                        go_wp2
                        go_meet
                        case rel => exact ⟨by rw [ZE.out], hw5⟩
                  · have E0 : ((j : Int) == 0) = false := by simp; omega
                    obtain ⟨G2, p2, hNI, hcl, -⟩ := OW.out.at_.elem (j - 1) (by rw [TL.out]; omega)
                    obtain ⟨la, hla⟩ : ∃ la, ((cartsQ a).take j).getD (j - 1) 0 = la := ⟨_, rfl⟩
                    rw [hla] at hcl
                    have NI := Lib.hid hNI
                    have cl2 := hcl
                    obtain ⟨gb, hgb⟩ : ∃ gb, decide (la < x.k.c) = gb := ⟨_, rfl⟩
                    have GB := Lib.hid hgb
                    have CD := Lib.hid (show cand ((cartsQ a).take j) x = gb by unfold cand; rw [FB.out, TL.out, hla, hgb, decide_eq_false (show ¬ j = 0 by omega)]; simp)
                    clear hNI hcl hla hgb
                    cases gb with
                    | false =>
                      have ZE := Lib.hid (show zz = false by rw [← ZZ.out, CD.out]; rfl)
                      refine region_later (by kernel_rfl) (by kernel_rfl) ?_
                      repeat (first
                        | go_big_quiet_skip
                        | (go_big_quiet_want; refine quiet_load_i Tryz.underlying23 gk 1 x.k.c _ rfl rfl c1k ?_; go_simp; go_big_quiet_on)
                        | (go_big_quiet_want; refine quiet_val _ (fun _ => exec_subb _ _ rfl (j : Int) 1 ((j : Int) - 1) rfl rfl rfl (by omega)) ?_; go_simp; go_big_quiet_on)
                        | (go_big_quiet_want; refine quiet_val _ (fun _ => exec_indexN Tryz.underlying34 _ _ rfl Ao j co G2 p2 (j - 1) _ rfl rfl (by omega) NI.out) ?_; go_simp; go_big_quiet_on)
                        | (go_big_quiet_want; refine quiet_load_i Tryz.underlying23 G2 p2 la _ rfl rfl cl2 ?_; go_simp; go_big_quiet_on)
                        | (go_big_quiet_want; refine quiet_val _ (fun _ => exec_gt23 _ _ rfl x.k.c la _ rfl rfl GB.out) ?_; go_simp; go_big_quiet_on)
                        | (go_big_quiet_want; refine quiet_val _ (fun _ => exec_lt23 _ _ rfl x.k.c lo _ rfl rfl LB.out) ?_; go_simp; go_big_quiet_on)
                        | go_big_quiet_step (fail))
                      refine wpQuiet_nil ?_
                      intro w5 hw5
                      go_wp2
                      go_meet
                      case rel => exact ⟨by rw [ZE.out], hw5⟩
                    | true =>
                      cases sb with
                      | false =>
                        have ZE := Lib.hid (show zz = true by rw [← ZZ.out]; simp [CD.out])
                        clear SB
                        refine region_later (by kernel_rfl) (by kernel_rfl) ?_
                        repeat (first
                          | go_big_quiet_skip
                          | (go_big_quiet_want; refine quiet_load_i Tryz.underlying23 gk 1 x.k.c _ rfl rfl c1k ?_; go_simp; go_big_quiet_on)
                          | (go_big_quiet_want; refine quiet_val _ (fun _ => exec_subb _ _ rfl (j : Int) 1 ((j : Int) - 1) rfl rfl rfl (by omega)) ?_; go_simp; go_big_quiet_on)
                          | (go_big_quiet_want; refine quiet_val _ (fun _ => exec_indexN Tryz.underlying34 _ _ rfl Ao j co G2 p2 (j - 1) _ rfl rfl (by omega) NI.out) ?_; go_simp; go_big_quiet_on)
                          | (go_big_quiet_want; refine quiet_load_i Tryz.underlying23 G2 p2 la _ rfl rfl cl2 ?_; go_simp; go_big_quiet_on)
                          | (go_big_quiet_want; refine quiet_val _ (fun _ => exec_gt23 _ _ rfl x.k.c la _ rfl rfl GB.out) ?_; go_simp; go_big_quiet_on)
                          | (go_big_quiet_want; refine quiet_val _ (fun _ => exec_lt23 _ _ rfl x.k.c lo _ rfl rfl LB.out) ?_; go_simp; go_big_quiet_on)
                          | go_big_quiet_step (fail))
                        refine wpQuiet_nil ?_
                        intro w5 hw5
                        go_wp2
                        go_meet
                        case rel => exact ⟨by rw [ZE.out], hw5⟩
                      | true =>
                        cases lb with
                        | false =>
                          have ZE := Lib.hid (show zz = false by rw [← ZZ.out]; simp)
                          clear SB
                          refine region_later (by kernel_rfl) (by kernel_rfl) ?_
                          repeat (first
                            | go_big_quiet_skip
                            | (go_big_quiet_want; refine quiet_load_i Tryz.underlying23 gk 1 x.k.c _ rfl rfl c1k ?_; go_simp; go_big_quiet_on)
                            | (go_big_quiet_want; refine quiet_val _ (fun _ => exec_subb _ _ rfl (j : Int) 1 ((j : Int) - 1) rfl rfl rfl (by omega)) ?_; go_simp; go_big_quiet_on)
                            | (go_big_quiet_want; refine quiet_val _ (fun _ => exec_indexN Tryz.underlying34 _ _ rfl Ao j co G2 p2 (j - 1) _ rfl rfl (by omega) NI.out) ?_; go_simp; go_big_quiet_on)
                            | (go_big_quiet_want; refine quiet_load_i Tryz.underlying23 G2 p2 la _ rfl rfl cl2 ?_; go_simp; go_big_quiet_on)
                            | (go_big_quiet_want; refine quiet_val _ (fun _ => exec_gt23 _ _ rfl x.k.c la _ rfl rfl GB.out) ?_; go_simp; go_big_quiet_on)
                            | (go_big_quiet_want; refine quiet_val _ (fun _ => exec_lt23 _ _ rfl x.k.c lo _ rfl rfl LB.out) ?_; go_simp; go_big_quiet_on)
                            | go_big_quiet_step (fail))
                          refine wpQuiet_nil ?_
                          intro w5 hw5
                          go_wp2
                          go_meet
                          case rel => exact ⟨by rw [ZE.out], hw5⟩
                        | true =>
                          have ZE := Lib.hid (show zz = true by rw [← ZZ.out]; simp [CD.out])
                          clear SB
                          refine region_later (by kernel_rfl) (by kernel_rfl) ?_
                          repeat (first
                            | go_big_quiet_skip
                            | (go_big_quiet_want; refine quiet_load_i Tryz.underlying23 gk 1 x.k.c _ rfl rfl c1k ?_; go_simp; go_big_quiet_on)
                            | (go_big_quiet_want; refine quiet_val _ (fun _ => exec_subb _ _ rfl (j : Int) 1 ((j : Int) - 1) rfl rfl rfl (by omega)) ?_; go_simp; go_big_quiet_on)
                            | (go_big_quiet_want; refine quiet_val _ (fun _ => exec_indexN Tryz.underlying34 _ _ rfl Ao j co G2 p2 (j - 1) _ rfl rfl (by omega) NI.out) ?_; go_simp; go_big_quiet_on)
                            | (go_big_quiet_want; refine quiet_load_i Tryz.underlying23 G2 p2 la _ rfl rfl cl2 ?_; go_simp; go_big_quiet_on)
                            | (go_big_quiet_want; refine quiet_val _ (fun _ => exec_gt23 _ _ rfl x.k.c la _ rfl rfl GB.out) ?_; go_simp; go_big_quiet_on)
                            | (go_big_quiet_want; refine quiet_val _ (fun _ => exec_lt23 _ _ rfl x.k.c lo _ rfl rfl LB.out) ?_; go_simp; go_big_quiet_on)
                            | go_big_quiet_step (fail))
                          refine wpQuiet_nil ?_
                          intro w5 hw5
                          go_wp2
                          go_meet
                          case rel => exact ⟨by rw [ZE.out], hw5⟩
              case rest =>
                obtain ⟨rfl, hb6⟩ := hcut
                have B6 := Lib.hid hb6
                have B26 := Lib.hid (step_ (step_ B2.out B3.out) hb6)
                have c16 := (KB.out.below hb6).cell (i := 1) (kc1 x.k)
                clear hb6
                cases zz with
                | true =>
                  have LF := Lib.hid (lowF_yes ZZ0.out)
                  go_wp2_with fail
                  go_roundw
                  case rel => exact ⟨k + 1, some x.k.c, by have := HLT.out; omega, by rw [TK.out, lowQ_snoc, LQ.out, LF.out], by go_num, rfl, rfl, B26.out⟩
                  case measure => have := HLT.out; simp [intOf]; omega
                | false =>
                  have LF := Lib.hid (lowF_no ZZ0.out)
                  go_wp2_with fail
                  go_roundw
                  case rel => exact ⟨k + 1, o, by have := HLT.out; omega, by rw [TK.out, lowQ_snoc, LQ.out, LF.out], by go_num, by rw [LO.out], by rw [SB.out], B26.out⟩
                  case measure => have := HLT.out; simp [intOf]; omega
        · obtain rfl : n1 = k := by have := HK.out; omega
          have TN : (norm a).take n1 = norm a := List.take_of_length_le (by have := R1.out.len; omega)
          have LC := Lib.hid (show (cartsQ a)[j]? = o by rw [← lowQ_is OA.out j HJ.out, ← LQ.out, TN])
          clear TN
          have OB := Lib.hid (OO.out.below B2.out)
          have BBB := Lib.hid (step_ BB.out B2.out)
          rcases Nat.lt_or_ge j (cartsQ a).length with hjl | hjl
          · have HJL := Lib.hid hjl
            have e1 := LC.out
            rw [List.getElem?_eq_getElem hjl] at e1
            have ES := Lib.hid (show true = sb by rw [← SB.out, ← e1]; rfl)
            have EL0 := Lib.hid (show (cartsQ a)[j] = lo by rw [← LO.out, ← e1]; rfl)
            obtain rfl := ES.out
            have TS := Lib.hid (show (cartsQ a).take (j + 1) = (cartsQ a).take j ++ [lo] by rw [List.take_succ_eq_append_getElem hjl]; exact congrArg (fun z => (cartsQ a).take j ++ [z]) EL0.out)
            have LR := Lib.hid (show 0 ≤ lo ∧ lo < 65536 by rw [← EL0.out]; exact cartsQ_rg OA.out _ (List.getElem_mem _))
            have PL := Lib.hid (show ((cartsQ a).take j).length + [lo].length ≤ 30000 by rw [TL.out]; simp; have := HJ.out; have := CN.out; omega)
            clear e1 ES hjl
            go_wp2_with (first
              | (refine wpList_val rfl _ (exec_lt _ _ rfl (n1 : Int) (n1 : Int) false rfl rfl (by simp)) ?_)
              | (refine wpList_num1 Tryz.underlying34 rfl _ rfl lo rfl LR.out ?_; intro g6 w6 e6 N6 Q6)
              | (refine wpList_app_n Tryz.underlying34 rfl _ _ rfl w1.heap.size (.slice Ao j co) (.slice (some ⟨g6, 0, none⟩) 1 1) ((cartsQ a).take j) [lo] rfl rfl (OB.out.below Q6.out) N6.out PL.out (Nat.le_trans BBB.out.size Q6.out.size) ?_; intro D7 m7 c7 w7 e7 O7 Q7 G7))
            have M7 := Lib.hid (show m7 = j + 1 by have := O7.out.at_.len; rw [List.length_append, TL.out] at this; simpa using this)
            go_roundw
            case rel => exact ⟨j + 1, D7, c7, by have := HJL.out; omega, by rw [M7.out], by rw [TS.out]; exact O7.out, (BBB.out.trans (Q6.out.mono BBB.out.size)).trans Q7.out⟩
            case measure => have := HJL.out; have := M7.out; simp [lenV]; omega
          · have EJ := Lib.hid (show (cartsQ a).take j = cartsQ a from List.take_of_length_le hjl)
            have e1 := LC.out
            rw [List.getElem?_eq_none hjl] at e1
            have ES := Lib.hid (show false = sb by rw [← SB.out, ← e1]; rfl)
            obtain rfl := ES.out
            clear e1 ES hjl
            go_wp2_with (first
              | (refine wpList_val rfl _ (exec_lt _ _ rfl (n1 : Int) (n1 : Int) false rfl rfl (by simp)) ?_))
            go_ret
            exact ⟨⟨_, rfl, by have h := OB.out.down B1.out.size; rw [EJ.out] at h; exact h⟩, step_ B1.out BBB.out⟩
    · obtain rfl : n1 = 0 := by omega
      have EJ := Lib.hid (show (cartsQ a).take j = cartsQ a from List.take_of_length_le (by have := CN.out; omega))
      go_wp2_with fail
      go_ret
      exact ⟨⟨_, rfl, by have h := OO.out.down B1.out.size; rw [EJ.out] at h; exact h⟩, step_ B1.out BB.out⟩
end Go.Proofs.YtijfbhdbfplghaaGreat
