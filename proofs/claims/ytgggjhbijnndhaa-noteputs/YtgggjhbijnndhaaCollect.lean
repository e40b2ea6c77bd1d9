/- The contract of collect of package lat. -/
import Derived.Test.YtgggjhbijnndhaaRefAll
import Derived.Test.YtgggjhbijnndhaaMaps
namespace Go.Proofs.Ytgggjhbijnndhaa
open Go.RowKit

theorem ready_lookup {ops : Array Oper} {Q : Exit → Act → World → Prop} {md : Region.Mode} {S : World → Prop} {fuel : Nat} {listed : Array Bool} {a : Act} {w : World} {i : Nat} {o : Oper} {rs : List Nat} (ho : ops[i]? = some o) (hg : o.guard = none) (x y : Operand) (hop : o.op = .lookup 91 x y false) (b n : Nat) (f : Ky → Option Vl) (k : Ky) (hx : a.eval x = .map (some b)) (hy : a.eval y = .agg k.cells.toArray) (hm : MapF w b n f) (hk : k.Ok)
    (h : S w ∧ wpAnyH Try.prog md ops Q S fuel (listed.setIfInBounds i true) (a.put o.dst (.agg ((f k).getD vzero).cells.toArray)) w)
    (hs : AllReadyH Try.prog md ops Q S fuel listed a w rs) : AllReadyH Try.prog md ops Q S fuel listed a w (i :: rs) := by
  refine AllReadyH.cons ho (fun K hK => ?_) hs
  have hw : Region.wanted o (yielded ops a.tmps) = true := by simp [Region.wanted, hg]
  rw [if_pos hw]
  have hr := run_lookup hm hk
  unfold Oper.wp execOp
  simp only [hop, hx, hy, Sem.run_bind, hr, Result.andThen_ok, Sem.run_pure]
  exact hK.out _ _ h.1 (fun _ => h.2)
theorem only_of_grown {w w' : World} {b : Nat} (h : w.grownBy w' (some b)) : Only b w w' := ⟨h.os, h.tape, h.output, h.size, fun k hk hn => h.block k hk (fun e => hn (Option.some.inj e))⟩
theorem ready_update {ops : Array Oper} {Q : Exit → Act → World → Prop} {md : Region.Mode} {S : World → Prop} {fuel : Nat} {listed : Array Bool} {a : Act} {w : World} {i : Nat} {o : Oper} {rs : List Nat} (ho : ops[i]? = some o) (hg : o.guard = none) (x y z : Operand) (hop : o.op = .mapUpdate 91 x y z) (b n : Nat) (f : Ky → Option Vl) (k : Ky) (v : Vl) (hx : a.eval x = .map (some b)) (hy : a.eval y = .agg k.cells.toArray) (hz : a.eval z = .agg v.cells.toArray) (hm : MapF w b n f) (hn : n ≤ 5000) (hk : k.Ok) (hf : OkF (upd f k v))
    (h : ∀ w', MapF w' b (n + 1) (upd f k v) → Only b w w' → S w' ∧ wpAnyH Try.prog md ops Q S fuel (listed.setIfInBounds i true) (a.put o.dst undef) w')
    (hs : AllReadyH Try.prog md ops Q S fuel listed a w rs) : AllReadyH Try.prog md ops Q S fuel listed a w (i :: rs) := by
  refine AllReadyH.cons ho (fun K hK => ?_) hs
  have hw : Region.wanted o (yielded ops a.tmps) = true := by simp [Region.wanted, hg]
  rw [if_pos hw]
  obtain ⟨w', hr, h1, h2⟩ := run_update hm hn hk v hf
  have H := h w' h1 (only_of_grown h2)
  unfold Oper.wp execOp
  simp only [hop, hx, hy, hz, Sem.run_bind, hr, Result.andThen_ok, Sem.run_pure]
  exact hK.out _ _ H.1 (fun _ => H.2)
/-- The call answers a map. -/
def GivesM (w : World) (f : Ky → Option Vl) (e : Ending) (w' : World) : Prop := (∃ b, e = .returned (.map (some b)) ∧ w.heap.size ≤ b ∧ MapF w' b 1000 f) ∧ Below w.heap.size w w'
theorem step_yes {f : Ky → Option Vl} {x : Am} (h : x.right = true) : step f x = upd f x.k (more x.v ((f x.k).getD vzero)) := by unfold step; rw [if_pos h]; rfl
theorem step_no {f : Ky → Option Vl} {x : Am} (h : x.right = false) : step f x = f := by unfold step; rw [if_neg (by rw [h]; decide)]
set_option maxRecDepth 100000 in
set_option maxHeartbeats 4000000 in
theorem collect_is (A : Option Addr) (n cap : Nat) (ls : List (List Am)) (w : World) (h : RowsV w A n cap ls) (hf : FewR ls) : Calls Try.prog 64 #[.slice A n cap] w (GivesM w (gt ls.flatten)) := by
  have hn : n ≤ 100 := by have := h.len; have := hf.1; omega
  have hmm := @run_makeMap Try.prog
  have hz := zero32
  have H := Lib.hid h
  have FF := Lib.hid hf
  have M0 := Lib.hid (mapF_made w)
  have B0 := Lib.hid (new_below w (.map #[] 0))
  clear h hf
  go_enter Try.func64, Try.ntmps64
  go_wp2_with fail
  go_loopw [11] (fun i wr => ∃ j : Nat, j ≤ n ∧ i = .int .i64 j ∧ MapF wr w.heap.size (ls.take j).flatten.length (gt (ls.take j).flatten) ∧ Below w.heap.size w wr) (fun i _ => n - (intOf i).toNat)
  case atStart => exact ⟨0, Nat.zero_le _, rfl, M0.out, B0.out⟩
  case round =>
    obtain ⟨j, hj, rfl, hv, hb⟩ := hrel
    have MM := Lib.hid hv
    have BB := Lib.hid hb
    clear hv hb
    by_cases hlt : j < n
    · obtain ⟨G, p, D1, m1, c1, hE⟩ := H.out.elem j hlt
      have E := Lib.hid (hE.below BB.out)
      have T := Lib.hid (takeL_getD (ls := ls) (j := j) (by have := H.out.len; omega))
      have LP := Lib.hid (FF.out.take j)
      have LL := Lib.hid (FF.out.at_ j)
      have hm1 : m1 ≤ 600 := by have := FF.out.at_ j; have := hE.row.len; omega
      have cell := E.out.cell
      have R1 := Lib.hid hE.row
      have HS := Lib.hid (show (ls.take (j + 1)).flatten = (ls.take j).flatten ++ ls.getD j [] by rw [T.out, List.flatten_append, List.flatten_singleton])
      obtain ⟨P, hP⟩ : ∃ P, (ls.take j).flatten = P := ⟨_, rfl⟩
      obtain ⟨L, hL⟩ : ∃ L, ls.getD j [] = L := ⟨_, rfl⟩
      rw [hP] at MM LP HS
      rw [hL] at R1 LL HS E
      clear hE hP hL
      go_wp2_with (first
        | go_skip
        | refine wpList_index40 rfl _ _ rfl A n cap G p j D1 m1 c1 _ _ rfl rfl (by first | rfl | omega) E.out ?_)
      go_loopw [17] (fun i wr => ∃ q : Nat, q ≤ m1 ∧ i = .int .i64 q ∧ MapF wr w.heap.size (P.length + q) (col (gt P) (L.take q)) ∧ Below w.heap.size w wr) (fun i _ => m1 - (intOf i).toNat)
      case atStart => exact ⟨0, Nat.zero_le _, rfl, MM.out, BB.out⟩
      case round =>
        obtain ⟨q, hq, rfl, hv, hb⟩ := hrel
        have MM := Lib.hid hv
        have BB := Lib.hid hb
        clear hv hb
        by_cases hlq : q < m1
        · obtain ⟨G1, p1, hE1⟩ := (R1.out.below BB.out).elem q hlq
          have E1 := Lib.hid hE1
          have T1 := Lib.hid (take_getD (l := L) (j := q) (by have := R1.out.len; omega))
          obtain ⟨x, hx⟩ : ∃ x, L.getD q azero = x := ⟨_, rfl⟩
          rw [hx] at E1 T1
          clear hE1 hx
          have XO := Lib.hid E1.out.ok
          have Z := Lib.hid (blk_alloc wr 63 azero.cells)
          have CS := Lib.hid (show col (gt P) (L.take (q + 1)) = step (col (gt P) (L.take q)) x by rw [T1.out, col_snoc])
          obtain ⟨f, hf⟩ : ∃ f, col (gt P) (L.take q) = f := ⟨_, rfl⟩
          rw [hf] at MM CS
          clear hf
          obtain ⟨N, hN⟩ : ∃ N, P.length + q = N := ⟨_, rfl⟩
          have NN := Lib.hid (show N ≤ 5000 by have := LP.out; omega)
          have NE := Lib.hid hN
          rw [hN] at MM
          clear hN
          cases hr : x.right with
          | false =>
            have HX := Lib.hid hr
            rw [step_no hr] at CS
            clear hr
            go_wp2_with (first
              | go_skip
              | refine wpList_index rfl _ _ rfl D1 m1 c1 G1 p1 q x _ rfl rfl (by first | rfl | omega) E1.out ?_
              | refine wpList_load_amx rfl _ rfl G1 p1 x rfl E1.out.rg XO.out ?_
              | (refine wpList_store_am rfl _ _ rfl wr.heap.size azero x rfl rfl Z.out azero_ok XO.out ?_; intro w2 N2 O2; have B2 := Lib.hid (box_below O2.out))
              | refine wpList_load_am rfl _ rfl wr.heap.size x rfl N2.out XO.out ?_)
            refine (aright_is x false _ XO.out HX).mono ?_
            rintro e w3 ⟨rfl, b3⟩
            have B3 := Lib.hid b3
            clear b3
            go_wp2_with fail
            go_roundw
            case rel => exact ⟨q + 1, by omega, by go_num, by rw [CS.out]; exact (MM.out.below (step_ B2.out B3.out)).mono (by have := NE.out; omega), step_ BB.out (step_ B2.out B3.out)⟩
            case measure => simp [intOf]; omega
          | true =>
            have HX := Lib.hid hr
            have FO := Lib.hid (show OkF (upd f x.k (more x.v ((f x.k).getD vzero))) by rw [← step_yes hr]; exact step_ok MM.out.ok XO.out)
            rw [step_yes hr] at CS
            clear hr
            go_wp2_with (first
              | go_skip
              | refine wpList_index rfl _ _ rfl D1 m1 c1 G1 p1 q x _ rfl rfl (by first | rfl | omega) E1.out ?_
              | refine wpList_load_amx rfl _ rfl G1 p1 x rfl E1.out.rg XO.out ?_
              | (refine wpList_store_am rfl _ _ rfl wr.heap.size azero x rfl rfl Z.out azero_ok XO.out ?_; intro w2 N2 O2; have B2 := Lib.hid (box_below O2.out))
              | refine wpList_load_am rfl _ rfl wr.heap.size x rfl N2.out XO.out ?_)
            have G7 := Lib.hid (show w.heap.size < wr.heap.size from MM.out.lt)
            refine (aright_is x true _ XO.out HX).mono ?_
            rintro e w3 ⟨rfl, b3⟩
            obtain ⟨g7, hg7⟩ : ∃ g7, wr.heap.size = g7 := ⟨_, rfl⟩
            have N7 := Lib.hid (N2.out.below b3)
            replace MM := Lib.hid (MM.out.below (step_ B2.out b3))
            replace BB := Lib.hid (step_ BB.out (step_ B2.out b3))
            rw [hg7] at N7 G7
            clear b3 N2 B2 Z
            go_wp2_with fail
            clear hg7
            have S1 := Lib.hid (show Below w.heap.size w w3.drew ∧ Blk w3.drew g7 63 x.cells from ⟨below_drew BB.out, N7.out.drew⟩)
            have M1 := Lib.hid (MM.out.below (below_drew (Below.refl _ _)))
            refine wp_region_noPanic ?_
            refine wp_region_held_drew (S := fun W => Below w.heap.size w W ∧ Blk W g7 63 x.cells) (by kernel_rfl) S1.out (fun _ => ?_)
            refine wpAnyH_take (i := 0) (oi := { dst := some 23, op := Go.Op.move (Go.Operand.tmp 3), type := 91, pos := _, after := #[], guard := none }) (v := ?_) rfl (by kernel_rfl) (by kernel_rfl) (by kernel_rfl) (fun _ _ _ h => h) (Or.inl ⟨by rfl, ?_⟩) S1.out ?_
            rotate_left
            · intro W hW; (go_simp; try with_reducible rfl)
            try simp only [Act.put, List.setIfInBounds_toArray, List.set_cons_zero, List.set_cons_succ]
            refine wpAnyH_take (i := 1) (oi := { dst := some 24, op := Go.Op.fieldAddr 63 (Go.Operand.tmp 7) 0, type := 0, pos := _, after := #[], guard := none }) (v := ?_) rfl (by kernel_rfl) (by kernel_rfl) (by kernel_rfl) (fun _ _ _ h => h) (Or.inl ⟨by rfl, ?_⟩) S1.out ?_
            rotate_left
            · intro W hW; (go_simp; try with_reducible rfl)
            try simp only [Act.put, List.setIfInBounds_toArray, List.set_cons_zero, List.set_cons_succ]
            refine wpAnyH_take (i := 2) (oi := { dst := some 25, op := Go.Op.load 55 (Go.Operand.tmp 24), type := 55, pos := _, after := #[{ on := 1, ground := Go.Ground.data }], guard := none }) (v := .agg x.k.cells.toArray) rfl (by kernel_rfl) (by kernel_rfl) (by kernel_rfl) (fun _ _ _ h => h) (yieldsIf_load_mid (by rfl) 55 (.tmp 24) rfl g7 0 rfl x.k.cells _ (fun W hW => hW.2.ak) Try.underlying55 rfl (size27 XO.out.k.ml)) S1.out ?_
            try simp only [Act.put, List.setIfInBounds_toArray, List.set_cons_zero, List.set_cons_succ]
            refine wpAnyH_take (i := 3) (oi := { dst := some 26, op := Go.Op.fieldAddr 63 (Go.Operand.tmp 7) 1, type := 0, pos := _, after := #[], guard := none }) (v := ?_) rfl (by kernel_rfl) (by kernel_rfl) (by kernel_rfl) (fun _ _ _ h => h) (Or.inl ⟨by rfl, ?_⟩) S1.out ?_
            rotate_left
            · intro W hW; (go_simp; try with_reducible rfl)
            try simp only [Act.put, List.setIfInBounds_toArray, List.set_cons_zero, List.set_cons_succ]
            refine wpAnyH_take (i := 4) (oi := { dst := some 27, op := Go.Op.load 38 (Go.Operand.tmp 26), type := 38, pos := _, after := #[{ on := 3, ground := Go.Ground.data }], guard := none }) (v := .agg x.v.cells.toArray) rfl (by kernel_rfl) (by kernel_rfl) (by kernel_rfl) (fun _ _ _ h => h) (yieldsIf_load_mid (by rfl) 38 (.tmp 26) rfl g7 12 rfl x.v.cells _ (fun W hW => hW.2.av XO.out) Try.underlying38 rfl (size30 XO.out.v.tl)) S1.out ?_
            try simp only [Act.put, List.setIfInBounds_toArray, List.set_cons_zero, List.set_cons_succ]
            refine wpAnyH_take (i := 5) (oi := { dst := some 28, op := Go.Op.move (Go.Operand.tmp 3), type := 91, pos := _, after := #[], guard := none }) (v := ?_) rfl (by kernel_rfl) (by kernel_rfl) (by kernel_rfl) (fun _ _ _ h => h) (Or.inl ⟨by rfl, ?_⟩) S1.out ?_
            rotate_left
            · intro W hW; (go_simp; try with_reducible rfl)
            try simp only [Act.put, List.setIfInBounds_toArray, List.set_cons_zero, List.set_cons_succ]
            refine wpAnyH_take (i := 6) (oi := { dst := some 29, op := Go.Op.fieldAddr 63 (Go.Operand.tmp 7) 0, type := 0, pos := _, after := #[], guard := none }) (v := ?_) rfl (by kernel_rfl) (by kernel_rfl) (by kernel_rfl) (fun _ _ _ h => h) (Or.inl ⟨by rfl, ?_⟩) S1.out ?_
            rotate_left
            · intro W hW; (go_simp; try with_reducible rfl)
            try simp only [Act.put, List.setIfInBounds_toArray, List.set_cons_zero, List.set_cons_succ]
            refine wpAnyH_take (i := 7) (oi := { dst := some 30, op := Go.Op.load 55 (Go.Operand.tmp 29), type := 55, pos := _, after := #[{ on := 6, ground := Go.Ground.data }], guard := none }) (v := .agg x.k.cells.toArray) rfl (by kernel_rfl) (by kernel_rfl) (by kernel_rfl) (fun _ _ _ h => h) (yieldsIf_load_mid (by rfl) 55 (.tmp 29) rfl g7 0 rfl x.k.cells _ (fun W hW => hW.2.ak) Try.underlying55 rfl (size27 XO.out.k.ml)) S1.out ?_
            try simp only [Act.put, List.setIfInBounds_toArray, List.set_cons_zero, List.set_cons_succ]
            refine wpAnyH_ready (rs := [8]) (by kernel_rfl) (by simp) ?_
            refine ready_lookup (o := { dst := some 31, op := Go.Op.lookup 91 (Go.Operand.tmp 28) (Go.Operand.tmp 30) false, type := 38, pos := _, after := #[{ on := 5, ground := Go.Ground.data }, { on := 7, ground := Go.Ground.data }], guard := none }) rfl rfl _ _ rfl w.heap.size _ _ x.k rfl rfl M1.out XO.out.k ⟨S1.out, ?_⟩ AllReadyH.nil
            try simp only [Act.put, List.setIfInBounds_toArray, List.set_cons_zero, List.set_cons_succ]
            refine wpAnyH_ready (rs := [9]) (by kernel_rfl) (by simp) ?_
            refine AllReadyH.cons (o := { dst := some 32, op := Go.Op.call { callee := Go.Callee.value (Go.Operand.func 72), args := #[Go.Operand.tmp 27, Go.Operand.tmp 31], argTypes := #[38, 38] }, type := 38, pos := _, after := #[{ on := 4, ground := Go.Ground.data }, { on := 8, ground := Go.Ground.data }], guard := none }) rfl (fun K hK => ?_) AllReadyH.nil
            go_simp
            refine (amore_is x.v ((f x.k).getD vzero) _ XO.out.v (getD_ok (MM.out.ok.o x.k))).mono ?_
            rintro e w4 ⟨rfl, b4⟩
            have S4 := Lib.hid (show Below w.heap.size w w4 ∧ Blk w4 g7 63 x.cells from ⟨step_ S1.out.1 b4, S1.out.2.below b4⟩)
            have M4 := Lib.hid (M1.out.below b4)
            clear b4
            go_wp2_with fail
            refine hK.out _ _ ?_ (fun _ => ?_)
            · exact S4.out
            clear hK K
            try simp only [Act.put, List.setIfInBounds_toArray, List.set_cons_zero, List.set_cons_succ]
            refine wpAnyH_ready (rs := [10]) (by kernel_rfl) (by simp) ?_
            refine ready_update (o := { dst := none, op := Go.Op.mapUpdate 91 (Go.Operand.tmp 23) (Go.Operand.tmp 25) (Go.Operand.tmp 32), type := 0, pos := _, after := #[{ on := 0, ground := Go.Ground.data }, { on := 2, ground := Go.Ground.data }, { on := 9, ground := Go.Ground.data }, { on := 9, ground := Go.Ground.chain }, { on := 0, ground := Go.Ground.phase }, { on := 1, ground := Go.Ground.phase }, { on := 2, ground := Go.Ground.phase }, { on := 3, ground := Go.Ground.phase }, { on := 4, ground := Go.Ground.phase }, { on := 5, ground := Go.Ground.phase }, { on := 6, ground := Go.Ground.phase }, { on := 7, ground := Go.Ground.phase }, { on := 8, ground := Go.Ground.phase }, { on := 9, ground := Go.Ground.phase }], guard := none }) rfl rfl _ _ _ rfl w.heap.size _ _ x.k (more x.v ((f x.k).getD vzero)) rfl rfl rfl M4.out NN.out XO.out.k FO.out (fun w5 m5 o5 => ?_) AllReadyH.nil
            have S5 := Lib.hid (show Below w.heap.size w w5 ∧ Blk w5 g7 63 x.cells from ⟨S4.out.1.trans (o5.below (Nat.le_refl _) S4.out.1.size), S4.out.2.only o5 (by have := G7.out; omega)⟩)
            have M5 := Lib.hid m5
            clear m5 o5
            refine ⟨S5.out, ?_⟩
            simp only [Act.put]
            refine wpAnyH_done (by kernel_rfl) ?_ _
            refine NoPanic.normal ?_
            go_wp2_with fail
            go_roundw
            case rel => exact ⟨q + 1, by omega, by go_num, by rw [CS.out]; exact M5.out.mono (by have := NE.out; omega), S5.out.1⟩
            case measure => simp [intOf]; omega
        · obtain rfl : q = m1 := by omega
          have TL := Lib.hid (show L.take q = L from List.take_of_length_le (by have := R1.out.len; omega))
          go_wp2_with fail
          go_roundw
          case rel => exact ⟨j + 1, by omega, by go_num, by rw [HS.out]; have h := MM.out; rw [TL.out] at h; unfold gt at h ⊢; rw [col_app]; exact h.mono (by rw [List.length_append]; have := R1.out.len; omega), BB.out⟩
          case measure => simp [intOf]; omega
    · obtain rfl : j = n := by omega
      have HS := Lib.hid (show ls.take j = ls from List.take_of_length_le (by have := H.out.len; omega))
      have LP := Lib.hid (FF.out.take j)
      go_wp2_with fail
      go_ret
      exact ⟨⟨_, rfl, Nat.le_refl _, by have h := MM.out; have := LP.out; rw [HS.out] at h this; exact h.mono (by omega)⟩, BB.out⟩
end Go.Proofs.Ytgggjhbijnndhaa
