/- The contract of collect of package lat. The contract of SortFunc at atoms. The contracts of sorted, All and Join of package lat. -/
import Derived.Test.YtnpbmihbmilkbaaGreatG01
import Derived.Test.YtnpbmihbmilkbaaGreatG16
import Derived.Test.YtnpbmihbmilkbaaGreatG25
import Derived.Test.YtnpbmihbmilkbaaGreatG24
namespace Go.Proofs.YtnpbmihbmilkbaaGreat
open Go.RowKit
theorem ready_lookup {ops : Array Oper} {Q : Exit → Act → World → Prop} {md : Region.Mode} {S : World → Prop} {fuel : Nat} {listed : Array Bool} {a : Act} {w : World} {i : Nat} {o : Oper} {rs : List Nat} (ho : ops[i]? = some o) (hg : o.guard = none) (x y : Operand) (hop : o.op = .lookup 123 x y false) (b n : Nat) (f : Ky → Option Vl) (k : Ky) (hx : a.eval x = .map (some b)) (hy : a.eval y = .agg k.cells.toArray) (hm : MapF w b n f) (hk : k.Ok)
    (h : S w ∧ wpAnyH Tryz.prog md ops Q S fuel (listed.setIfInBounds i true) (a.put o.dst (.agg ((f k).getD vzero).cells.toArray)) w)
    (hs : AllReadyH Tryz.prog md ops Q S fuel listed a w rs) : AllReadyH Tryz.prog md ops Q S fuel listed a w (i :: rs) := by
  refine AllReadyH.cons ho (fun K hK => ?_) hs
  have hw : Region.wanted o (yielded ops a.tmps) = true := by simp [Region.wanted, hg]
  rw [if_pos hw]
  have hr := run_lookup hm hk
  unfold Oper.wp execOp
  simp only [hop, hx, hy, Sem.run_bind, hr, Result.andThen_ok, Sem.run_pure]
  exact hK.out _ _ h.1 (fun _ => h.2)
theorem only_of_grown {w w' : World} {b : Nat} (h : w.grownBy w' (some b)) : Only b w w' := ⟨h.os, h.tape, h.output, h.size, fun k hk hn => h.block k hk (fun e => hn (Option.some.inj e))⟩
theorem ready_update {ops : Array Oper} {Q : Exit → Act → World → Prop} {md : Region.Mode} {S : World → Prop} {fuel : Nat} {listed : Array Bool} {a : Act} {w : World} {i : Nat} {o : Oper} {rs : List Nat} (ho : ops[i]? = some o) (hg : o.guard = none) (x y z : Operand) (hop : o.op = .mapUpdate 123 x y z) (b n : Nat) (f : Ky → Option Vl) (k : Ky) (v : Vl) (hx : a.eval x = .map (some b)) (hy : a.eval y = .agg k.cells.toArray) (hz : a.eval z = .agg v.cells.toArray) (hm : MapF w b n f) (hn : n ≤ 5000) (hk : k.Ok) (hf : OkF (upd f k v))
    (h : ∀ w', MapF w' b (n + 1) (upd f k v) → Only b w w' → S w' ∧ wpAnyH Tryz.prog md ops Q S fuel (listed.setIfInBounds i true) (a.put o.dst undef) w')
    (hs : AllReadyH Tryz.prog md ops Q S fuel listed a w rs) : AllReadyH Tryz.prog md ops Q S fuel listed a w (i :: rs) := by
  refine AllReadyH.cons ho (fun K hK => ?_) hs
  have hw : Region.wanted o (yielded ops a.tmps) = true := by simp [Region.wanted, hg]
  rw [if_pos hw]
  obtain ⟨w', hr, h1, h2⟩ := run_update hm hn hk v hf
  have H := h w' h1 (only_of_grown h2)
  unfold Oper.wp execOp
  simp only [hop, hx, hy, hz, Sem.run_bind, hr, Result.andThen_ok, Sem.run_pure]
  exact hK.out _ _ H.1 (fun _ => H.2)
def GivesM (w : World) (f : Ky → Option Vl) (e : Ending) (w' : World) : Prop := (∃ b, e = .returned (.map (some b)) ∧ w.heap.size ≤ b ∧ MapF w' b 1000 f) ∧ Below w.heap.size w w'
theorem step_yes {f : Ky → Option Vl} {x : Am} (h : x.right = true) : step f x = upd f x.k (more x.v ((f x.k).getD vzero)) := by unfold step; rw [if_pos h]; rfl
theorem step_no {f : Ky → Option Vl} {x : Am} (h : x.right = false) : step f x = f := by unfold step; rw [if_neg (by rw [h]; decide)]
set_option maxRecDepth 100000 in
set_option maxHeartbeats 4000000 in
theorem collect_is (A : Option Addr) (n cap : Nat) (ls : List (List Am)) (w : World) (h : RowsV w A n cap ls) (hf : FewR ls) : Calls Tryz.prog 95 #[.slice A n cap] w (GivesM w (gt ls.flatten)) := by
  have hn : n ≤ 100 := by have := h.len; have := hf.1; omega
  have hmm := @run_makeMap Tryz.prog
  have hz := zero32
  have H := Lib.hid h
  have FF := Lib.hid hf
  have M0 := Lib.hid (mapF_made w)
  have B0 := Lib.hid (new_below w (.map #[] 0))
  clear h hf
  go_enter Tryz.func95, Tryz.ntmps95
  go_wp2_with fail
  go_loopw [11] (fun i wr => ∃ j : Nat, j ≤ n ∧ i = .int .i64 j ∧ MapF wr w.heap.size (ls.take j).flatten.length (gt (ls.take j).flatten) ∧ Below w.heap.size w wr) (fun i _ => n - (intOf i).toNat)
  case atStart => exact ⟨0, Nat.zero_le _, rfl, M0.out, B0.out⟩
  case round =>
    obtain ⟨j, hj, rfl, hv, hb⟩ := hrel
    have MM := Lib.hid hv
    have BB := Lib.hid hb
    clear hv hb
    by_cases hlt : j < n
    · obtain ⟨G, p, D1, m1, c1, hE⟩ := H.out.elem j hlt
      have E := Lib.hid (hE.below BB.out)
      have T := Lib.hid (takeL_getD (ls := ls) (j := j) (by have := H.out.len; omega))
      have LP := Lib.hid (FF.out.take j)
      have LL := Lib.hid (FF.out.at_ j)
      have hm1 : m1 ≤ 600 := by have := FF.out.at_ j; have := hE.row.len; omega
      have cell := E.out.cell
      have R1 := Lib.hid hE.row
      have HS := Lib.hid (show (ls.take (j + 1)).flatten = (ls.take j).flatten ++ ls.getD j [] by rw [T.out, List.flatten_append, List.flatten_singleton])
      obtain ⟨P, hP⟩ : ∃ P, (ls.take j).flatten = P := ⟨_, rfl⟩
      obtain ⟨L, hL⟩ : ∃ L, ls.getD j [] = L := ⟨_, rfl⟩
      rw [hP] at MM LP HS
      rw [hL] at R1 LL HS E
      clear hE hP hL
      go_wp2_with (first
        | go_skip
        | refine wpList_index40 rfl _ _ rfl A n cap G p j D1 m1 c1 _ _ rfl rfl (by first | rfl | omega) E.out ?_)
      go_loopw [17] (fun i wr => ∃ q : Nat, q ≤ m1 ∧ i = .int .i64 q ∧ MapF wr w.heap.size (P.length + q) (col (gt P) (L.take q)) ∧ Below w.heap.size w wr) (fun i _ => m1 - (intOf i).toNat)
      case atStart => exact ⟨0, Nat.zero_le _, rfl, MM.out, BB.out⟩
      case round =>
        obtain ⟨q, hq, rfl, hv, hb⟩ := hrel
        have MM := Lib.hid hv
        have BB := Lib.hid hb
        clear hv hb
        by_cases hlq : q < m1
        · obtain ⟨G1, p1, hE1⟩ := (R1.out.below BB.out).elem q hlq
          have E1 := Lib.hid hE1
          have T1 := Lib.hid (take_getD (l := L) (j := q) (by have := R1.out.len; omega))
          obtain ⟨x, hx⟩ : ∃ x, L.getD q azero = x := ⟨_, rfl⟩
          rw [hx] at E1 T1
          clear hE1 hx
          have XO := Lib.hid E1.out.ok
          have Z := Lib.hid (blk_alloc wr 50 azero.cells)
          have CS := Lib.hid (show col (gt P) (L.take (q + 1)) = step (col (gt P) (L.take q)) x by rw [T1.out, col_snoc])
          obtain ⟨f, hf⟩ : ∃ f, col (gt P) (L.take q) = f := ⟨_, rfl⟩
          rw [hf] at MM CS
          clear hf
          obtain ⟨N, hN⟩ : ∃ N, P.length + q = N := ⟨_, rfl⟩
          have NN := Lib.hid (show N ≤ 5000 by have := LP.out; omega)
          have NE := Lib.hid hN
          rw [hN] at MM
          clear hN
          cases hr : x.right with
          | false =>
            have HX := Lib.hid hr
            rw [step_no hr] at CS
            clear hr
            go_wp2_with (first
              | go_skip
              | refine wpList_index rfl _ _ rfl D1 m1 c1 G1 p1 q x _ rfl rfl (by first | rfl | omega) E1.out ?_
              | refine wpList_load_amx rfl _ rfl G1 p1 x rfl E1.out.rg XO.out ?_
              | (refine wpList_store_am rfl _ _ rfl wr.heap.size azero x rfl rfl Z.out azero_ok XO.out ?_; intro w2 N2 O2; have B2 := Lib.hid (box_below O2.out))
              | refine wpList_load_am rfl _ rfl wr.heap.size x rfl N2.out XO.out ?_)
            refine (aright_is x false _ XO.out HX).mono ?_
            rintro e w3 ⟨rfl, b3⟩
            have B3 := Lib.hid b3
            clear b3
            go_wp2_with fail
            go_roundw
            case rel => exact ⟨q + 1, by omega, by go_num, by rw [CS.out]; exact (MM.out.below (step_ B2.out B3.out)).mono (by have := NE.out; omega), step_ BB.out (step_ B2.out B3.out)⟩
            case measure => simp [intOf]; omega
          | true =>
            have HX := Lib.hid hr
            have FO := Lib.hid (show OkF (upd f x.k (more x.v ((f x.k).getD vzero))) by rw [← step_yes hr]; exact step_ok MM.out.ok XO.out)
            rw [step_yes hr] at CS
            clear hr
            go_wp2_with (first
              | go_skip
              | refine wpList_index rfl _ _ rfl D1 m1 c1 G1 p1 q x _ rfl rfl (by first | rfl | omega) E1.out ?_
              | refine wpList_load_amx rfl _ rfl G1 p1 x rfl E1.out.rg XO.out ?_
              | (refine wpList_store_am rfl _ _ rfl wr.heap.size azero x rfl rfl Z.out azero_ok XO.out ?_; intro w2 N2 O2; have B2 := Lib.hid (box_below O2.out))
              | refine wpList_load_am rfl _ rfl wr.heap.size x rfl N2.out XO.out ?_)
            have G7 := Lib.hid (show w.heap.size < wr.heap.size from MM.out.lt)
            refine (aright_is x true _ XO.out HX).mono ?_
            rintro e w3 ⟨rfl, b3⟩
            obtain ⟨g7, hg7⟩ : ∃ g7, wr.heap.size = g7 := ⟨_, rfl⟩
            have N7 := Lib.hid (N2.out.below b3)
            replace MM := Lib.hid (MM.out.below (step_ B2.out b3))
            replace BB := Lib.hid (step_ BB.out (step_ B2.out b3))
            rw [hg7] at N7 G7
            clear b3 N2 B2 Z
            go_wp2_with fail
            clear hg7
            have S1 := Lib.hid (show Below w.heap.size w w3.drew ∧ Blk w3.drew g7 50 x.cells from ⟨below_drew BB.out, N7.out.drew⟩)
            have M1 := Lib.hid (MM.out.below (below_drew (Below.refl _ _)))
            refine wp_region_noPanic ?_
            refine wp_region_held_drew (S := fun W => Below w.heap.size w W ∧ Blk W g7 50 x.cells) (by kernel_rfl) S1.out (fun _ => ?_)
            refine tkm 0 rfl S1.out ?_; try simp only [Act.put, stA, stZ, stS]
            refine tkm 1 rfl S1.out ?_; try simp only [Act.put, stA, stZ, stS]
            refine tky 2 (.agg x.k.cells.toArray) rfl (yieldsIf_load_mid (by rfl) 48 (.tmp 24) rfl g7 0 rfl x.k.cells _ (fun W hW => hW.2.ak) Tryz.underlying48 rfl (size27 XO.out.k.ml)) S1.out ?_; try simp only [Act.put, stA, stZ, stS]
            refine tkm 3 rfl S1.out ?_; try simp only [Act.put, stA, stZ, stS]
            refine tky 4 (.agg x.v.cells.toArray) rfl (yieldsIf_load_mid (by rfl) 42 (.tmp 26) rfl g7 12 rfl x.v.cells _ (fun W hW => hW.2.av XO.out) Tryz.underlying42 rfl (size30 XO.out.v.tl)) S1.out ?_; try simp only [Act.put, stA, stZ, stS]
            refine tkm 5 rfl S1.out ?_; try simp only [Act.put, stA, stZ, stS]
            refine tkm 6 rfl S1.out ?_; try simp only [Act.put, stA, stZ, stS]
            refine tky 7 (.agg x.k.cells.toArray) rfl (yieldsIf_load_mid (by rfl) 48 (.tmp 29) rfl g7 0 rfl x.k.cells _ (fun W hW => hW.2.ak) Tryz.underlying48 rfl (size27 XO.out.k.ml)) S1.out ?_; try simp only [Act.put, stA, stZ, stS]
            refine rdy [8] ?_
            refine ready_lookup (arR rfl) rfl _ _ rfl w.heap.size _ _ x.k rfl rfl M1.out XO.out.k ⟨S1.out, ?_⟩ AllReadyH.nil
            try simp only [Act.put, stA, stZ, stS]
            refine rdy [9] ?_
            refine AllReadyH.cons (arR rfl) (fun K hK => ?_) AllReadyH.nil
            go_simp
            refine (amore_is x.v ((f x.k).getD vzero) _ XO.out.v (getD_ok (MM.out.ok.o x.k))).mono ?_
            rintro e w4 ⟨rfl, b4⟩
            have S4 := Lib.hid (show Below w.heap.size w w4 ∧ Blk w4 g7 50 x.cells from ⟨step_ S1.out.1 b4, S1.out.2.below b4⟩)
            have M4 := Lib.hid (M1.out.below b4)
            clear b4
            go_wp2_with fail
            refine hK.out _ _ ?_ (fun _ => ?_)
            · exact S4.out
            clear hK K
            try simp only [Act.put, stA, stZ, stS]
            refine rdy [10] ?_
            refine ready_update (arR rfl) rfl _ _ _ rfl w.heap.size _ _ x.k (more x.v ((f x.k).getD vzero)) rfl rfl rfl M4.out NN.out XO.out.k FO.out (fun w5 m5 o5 => ?_) AllReadyH.nil
            have S5 := Lib.hid (show Below w.heap.size w w5 ∧ Blk w5 g7 50 x.cells from ⟨S4.out.1.trans (o5.below (Nat.le_refl _) S4.out.1.size), S4.out.2.only o5 (by have := G7.out; omega)⟩)
            have M5 := Lib.hid m5
            clear m5 o5
            refine ⟨S5.out, ?_⟩
            simp only [Act.put]
            refine wpAnyH_done (by kernel_rfl) ?_ _
            refine NoPanic.normal ?_
            go_wp2_with fail
            go_roundw
            case rel => exact ⟨q + 1, by omega, by go_num, by rw [CS.out]; exact M5.out.mono (by have := NE.out; omega), S5.out.1⟩
            case measure => simp [intOf]; omega
        · obtain rfl : q = m1 := by omega
          have TL := Lib.hid (show L.take q = L from List.take_of_length_le (by have := R1.out.len; omega))
          go_wp2_with fail
          go_roundw
          case rel => exact ⟨j + 1, by omega, by go_num, by rw [HS.out]; have h := MM.out; rw [TL.out] at h; unfold gt at h ⊢; rw [col_app]; exact h.mono (by rw [List.length_append]; have := R1.out.len; omega), BB.out⟩
          case measure => simp [intOf]; omega
    · obtain rfl : j = n := by omega
      have HS := Lib.hid (show ls.take j = ls from List.take_of_length_le (by have := H.out.len; omega))
      have LP := Lib.hid (FF.out.take j)
      go_wp2_with fail
      go_ret
      exact ⟨⟨_, rfl, Nat.le_refl _, by have h := MM.out; have := LP.out; rw [HS.out] at h this; exact h.mono (by omega)⟩, BB.out⟩
end Go.Proofs.YtnpbmihbmilkbaaGreat
namespace Go.Proofs.YtnpbmihbmilkbaaGreat
open Go.RowKit Go.Sort
/-- An atom whose fields fit. -/
abbrev Ao := { a : Am // a.Ok }
instance : Inhabited Ao := ⟨⟨azero, azero_ok⟩⟩
def enA (x : Ao) : List Value := x.1.cells
def cfA (x y : Ao) : Int := cmpAm x.1 y.1
theorem ltA (x y : Ao) : ltOf cfA x y = decide (x.1.k.kn < y.1.k.kn) := by
  unfold ltOf cfA cmpAm
  rw [cmp3_less, ← less_kn x.2.k y.2.k]
  rfl
theorem swoA : SWO (ltOf cfA) where
  irrefl x := by rw [ltA]; simp
  trans x y z h1 h2 := by rw [ltA] at *; simp only [decide_eq_true_eq] at *; omega
  ntrans x y z h1 h2 := by rw [ltA] at *; simp only [decide_eq_false_iff_not] at *; omega
theorem cmpLays54 (blk off size : Nat) (w : World) : CmpLays Tryz.prog 118 #[] enA 21 cfA blk off size w := fun m os dk _ x y =>
  (cmpAm_is x.1 y.1 (sortWorldK enA 21 w blk off m dk os) x.2 y.2).mono fun _ _ h => ⟨h.1, h.2.grow⟩
def arrL : (l : List Am) → OkR l → List Ao
  | [], _ => []
  | a :: l, h => ⟨a, h.head⟩ :: arrL l h.tail
theorem arrL_map : ∀ (l : List Am) (h : OkR l), (arrL l h).map Subtype.val = l
  | [], _ => rfl
  | a :: l, h => by rw [arrL, List.map_cons, arrL_map l h.tail]
def arr (l : List Am) (h : OkR l) : Array Ao := (arrL l h).toArray
theorem arr_size (l : List Am) (h : OkR l) : (arr l h).size = l.length := by
  have := congrArg List.length (arrL_map l h)
  rw [List.length_map] at this
  exact this
theorem arr_get (l : List Am) (h : OkR l) (i : Nat) (hi : i < l.length) : ((arr l h)[i]!).1 = l[i] := by
  have hs := arr_size l h
  rw [getElem!_pos _ i (by rw [hs]; exact hi)]
  have e : ((arrL l h).map Subtype.val)[i]? = l[i]? := by rw [arrL_map]
  rw [List.getElem?_map, List.getElem?_eq_getElem hi, List.getElem?_eq_getElem (by rw [← hs] at hi; exact hi)] at e
  exact Option.some.inj e
theorem arr_list (l : List Am) (h : OkR l) : (arr l h).toList.map Subtype.val = l := arrL_map l h
theorem extract_all (d : Array Ao) (n : Nat) (h : n = d.size) : (d.extract 0 n).toList = d.toList := by subst h; simp
theorem ownR_holds {w : World} {B g cap : Nat} {l : List Am} (h : OwnR w B (.slice (some ⟨g, 0, none⟩) l.length cap) l) : HoldsK enA 21 w g 0 (arr l h.ok) := by
  rcases h.row.2 with ⟨e, _⟩ | ⟨g', cap', cur, e, hb, hg, hn, hc, hs, ht⟩
  · cases e
  · injection e with e1 e2 e3
    injection e1 with e1
    injection e1 with e1
    subst e1
    intro t ht'
    rw [size_flatK, arr_size] at ht'
    rw [get_flatK _ _ _ t (by rw [arr_size]; exact ht')]
    have hi : t / 21 < l.length := by omega
    have hj : t % 21 < 21 := by omega
    have e4 : enA (arr l h.ok)[t / 21]! = l[t / 21].cells := by unfold enA; rw [arr_get l h.ok _ hi]
    have hlen := acells_len (h.ok _ (List.getElem_mem hi))
    rw [e4]
    have hv : l[t / 21].cells[t % 21]? = some (l[t / 21].cells[t % 21]!) := by
      rw [List.getElem?_eq_getElem (by omega), getElem!_pos _ _ (by omega)]
    have h1 := acs_get h.ok _ hi (t % 21) _ hv
    rw [show t / 21 * 21 + t % 21 = t by omega, ← ht, List.getElem?_take_of_lt ht'] at h1
    refine ⟨?_, ?_⟩
    · rw [cell_of_row _ g _ cur 50 (0, 0) hg, Nat.zero_add]
      simpa using h1
    · unfold World.frozen?
      simp [hg]
theorem sortW_only (w : World) (g : Nat) (n : Nat) (d : Array Ao) (os : Array Obj) : Only g w (sortWorldK enA 21 w g 0 n d os) := by
  have hb : ∀ k, k < w.heap.size → k ≠ g → (sortWorldK enA 21 w g 0 n d os).heap[k]? = w.heap[k]? := by
    intro k hk hn
    unfold sortWorldK putRowK putRow mapBlock grow Go.Sort.ahead
    simp only
    rw [Array.getElem?_append_left (by simpa using hk), Array.getElem?_modify, if_neg (fun e => hn e.symm)]
  refine ⟨rfl, rfl, rfl, ?_, hb⟩
  unfold sortWorldK putRowK
  rw [size_grow, size_putRow]
  show w.heap.size ≤ w.heap.size + os.size
  omega
/-- What the sort leaves: a state, if no key was there twice. -/
theorem sort_is (g cap : Nat) (B : Nat) (l : List Am) (w : World) (h : OwnR w B (.slice (some ⟨g, 0, none⟩) l.length cap) l) (hr : ∀ a ∈ l, a.right = true) (hd : l.Pairwise (fun a b => a.k ≠ b.k)) (hn : l.length ≤ 5000) :
    Calls Tryz.prog 117 #[.slice (some ⟨g, 0, none⟩) l.length cap, .func (.func 118) #[] #[]] w fun e w' => e = .returned (.tuple #[]) ∧ ∃ s, St s ∧ (∀ a, a ∈ s ↔ a ∈ l) ∧ RowV w' (some ⟨g, 0, none⟩) l.length cap s ∧ Only g w w' := by
  have hH := ownR_holds h
  have hg : g < w.heap.size := (h.row.lt g rfl).2
  have eg : ∀ args w, (callFunc 118 args).run Tryz.prog w = .ok (.enter 118 args) w := enters_of Tryz.func118 (by kernel_rfl) rfl
  have hcap : l.length ≤ cap ∧ cap ≤ maxLen := by
    rcases h.row.2 with ⟨e, _⟩ | ⟨g', cap', cur, e, _, _, h1, h2, _⟩
    · cases e
    · injection e with e1 e2 e3; subst e3; exact ⟨h1, h2⟩
  have hcon := AnyQ.slices_SortFunc Tryz.sortAm 21 Tryz.isAgg50 sizeQf46 enA (fun x => acells_len x.2) (fun x => all_list (one32 x.1)) cfA swoA 118 #[] g 0 cap (arr l h.ok) w eg (cmpLays54 g 0 _ w) hH hg (by rw [arr_size]; omega)
  rw [arr_size] at hcon
  refine hcon.mono ?_
  rintro e w' ⟨rfl, d', n, os, hp, hs, rfl⟩
  have hsz : d'.size = l.length := by rw [hp.1, arr_size]
  have hperm : (d'.toList.map Subtype.val).Perm l := by
    have h3 := hp.2.2
    rw [extract_all d' _ hsz.symm, extract_all _ _ (arr_size l h.ok).symm] at h3
    have := h3.map Subtype.val
    rwa [arr_list] at this
  have get : ∀ i (hi : i < (d'.toList.map Subtype.val).length), (d'.toList.map Subtype.val)[i] = d'[i]!.1 := fun i hi => by
    rw [List.getElem_map, getElem!_pos d' i (by simpa using hi)]
    rfl
  have hlen : (d'.toList.map Subtype.val).length = l.length := by rw [List.length_map, Array.length_toList, hsz]
  have hok : OkR (d'.toList.map Subtype.val) := fun a ha => h.ok a (hperm.mem_iff.1 ha)
  have hd' : (d'.toList.map Subtype.val).Pairwise (fun a b => a.k ≠ b.k) := (hperm.pairwise_iff (fun {a b} (h : a.k ≠ b.k) => h.symm)).2 hd
  refine ⟨rfl, d'.toList.map Subtype.val, ⟨hok, fun a ha => hr a (hperm.mem_iff.1 ha), ?_⟩, fun a => hperm.mem_iff, ?_, sortW_only w g n d' os⟩
  · refine List.pairwise_iff_getElem.2 (fun i j hi hj hij => ?_)
    have h1 := hs i j (Nat.zero_le _) hij (by rw [hlen] at hj; exact hj)
    rw [ltA, ← get i hi, ← get j hj] at h1
    have h1 := of_decide_eq_false h1
    have h2 := List.pairwise_iff_getElem.1 hd' i j hi hj hij
    have h3 : (d'.toList.map Subtype.val)[i].k.kn ≠ (d'.toList.map Subtype.val)[j].k.kn := fun e => h2 (kn_inj (hok _ (List.getElem_mem _)).k (hok _ (List.getElem_mem _)).k e)
    omega
  · refine ⟨hok, hlen, hcap.1, hcap.2, fun _ => ⟨g, 0, rfl, ?_, fun i hi c v hv => ?_⟩⟩
    · exact Nat.lt_of_lt_of_le hg (sortW_only w g n d' os).size
    · have hsw : SWK enA 21 w g 0 d' (sortWorldK enA 21 w g 0 n d' os) := ⟨n, os, rfl⟩
      have hh := hsw.holds hg hH (by rw [hsz, arr_size])
      have hc : c < 21 := by
        have h1 := (List.getElem?_eq_some_iff.1 hv).1
        rw [acells_len (hok _ (List.getElem_mem hi))] at h1
        exact h1
      have h5 := (HoldsK.cell hh (i := i) (c := c) (by rw [hsz]; rw [hlen] at hi; exact hi) hc).1
      rw [h5]
      rw [get i hi] at hv
      obtain ⟨h6, h7⟩ := List.getElem?_eq_some_iff.1 hv
      unfold enA
      rw [getElem!_pos _ c h6, h7]
end Go.Proofs.YtnpbmihbmilkbaaGreat
namespace Go.Proofs.YtnpbmihbmilkbaaGreat
open Go.RowKit
/-- What has been gathered, and what is still to come. -/
structure CI (f g : Ky → Option Vl) (out : List Am) : Prop where
  all : ∀ k v, f k = some v ↔ g k = some v ∨ (⟨k, v⟩ : Am) ∈ out
  no : ∀ a ∈ out, g a.k = none
  dist : out.Pairwise (fun a b => a.k ≠ b.k)
theorem CI.start (f : Ky → Option Vl) : CI f f [] := ⟨fun _ _ => ⟨.inl, fun h => h.elim id (fun h => by cases h)⟩, fun _ h => (by cases h), List.Pairwise.nil⟩
theorem CI.step {f g : Ky → Option Vl} {out : List Am} (h : CI f g out) {k : Ky} {v : Vl} (hg : g k = some v) : CI f (del g k) (out ++ [⟨k, v⟩]) := by
  refine ⟨fun x u => ?_, fun a ha => ?_, ?_⟩
  · rw [h.all]
    unfold del
    by_cases e : x = k
    · subst e
      rw [hg]
      simp only [if_true, List.mem_append, List.mem_singleton]
      constructor
      · rintro (e | e)
        · cases e; exact .inr (.inr rfl)
        · exact .inr (.inl e)
      · rintro (e | e | e)
        · cases e
        · exact .inr e
        · injection e with _ e; left; rw [e]
    · simp only [if_neg e, List.mem_append, List.mem_singleton]
      constructor
      · rintro (h1 | h1)
        · exact .inl h1
        · exact .inr (.inl h1)
      · rintro (h1 | h1 | h1)
        · exact .inl h1
        · exact .inr h1
        · injection h1 with h1; exact absurd h1 e
  · unfold del
    rcases List.mem_append.1 ha with ha | ha
    · split
      · rfl
      · exact h.no a ha
    · obtain rfl := List.mem_singleton.1 ha
      simp
  · refine List.pairwise_append.2 ⟨h.dist, List.pairwise_singleton _ _, fun a ha b hb e => ?_⟩
    obtain rfl := List.mem_singleton.1 hb
    have := h.no a ha
    rw [e, hg] at this
    cases this
theorem CI.ok {f g : Ky → Option Vl} {out : List Am} (h : CI f g out) (hf : OkF f) : ∀ a ∈ out, a.right = true := fun a ha => hf.r a.k a.v ((h.all a.k a.v).2 (.inr ha))
theorem CI.done {l : List Am} (hl : OkR l) {g : Ky → Option Vl} {out s : List Am} (h : CI (gt l) g out) (hg : ∀ k, g k = none) (hs : St s) (hm : ∀ a, a ∈ s ↔ a ∈ out) : s = norm l := by
  refine norm_eq hs hl (fun k => ?_)
  have e : fnd s k = gt l k := by
    cases e1 : gt l k with
    | none =>
      cases e2 : fnd s k with
      | none => rfl
      | some v =>
        have := (h.all k v).2 (.inr ((hm _).1 (fnd_mem e2)))
        rw [e1] at this; cases this
    | some v =>
      rcases (h.all k v).1 e1 with h1 | h1
      · rw [hg] at h1; cases h1
      · exact fnd_of_mem hs ((hm _).2 h1)
  rw [e]
theorem RangeF.only {w w' : World} {x b r n : Nat} {f g : Ky → Option Vl} {cnt : Nat} (h : RangeF w b r n f g cnt) (ho : Only x w w') (hb : b ≠ x) (hr : r ≠ x) : RangeF w' b r n f g cnt :=
  h.kept (row := some x) ⟨ho.os, ho.tape, ho.output, ho.size, fun k hk hn => ho.block k hk (fun e => hn (by rw [e]))⟩ (fun e => hb (Option.some.inj e)) (fun e => hr (Option.some.inj e))
theorem wpList_fits {ops : Array Oper} {rest : List Oper} {op : Oper} {a : Act} {w : World} {Q : Exit → Act → World → Prop} (hgd : op.guard = none) (s x : Operand) (ho : op.op = .call { callee := .builtin .append, args := #[s, x], argTypes := #[23, 23] })
    (B g k cap : Nat) (l : List Am) (A : Am) (g1 : Nat) (hs : a.eval s = .slice (some ⟨g, 0, none⟩) k cap) (hx : a.eval x = .slice (some ⟨g1, 0, none⟩) 1 1) (hown : OwnR w B (.slice (some ⟨g, 0, none⟩) k cap) l) (hk : k = l.length) (hA : A.Ok) (hgb : Blk w g1 50 A.cells) (hfit : k + 1 ≤ cap)
    (h : ∀ m w', Hid (m = k + 1) → Hid (OwnR w' B (.slice (some ⟨g, 0, none⟩) m cap) (l ++ [A])) → Hid (Only g w w') → wpList Tryz.prog ops Q rest (a.put op.dst (.slice (some ⟨g, 0, none⟩) m cap)) w') : wpList Tryz.prog ops Q (op :: rest) a w := by
  obtain ⟨i0, hi, hz0, hz1, hz2⟩ := info_parts info46z
  refine wpList_append_fits w hgd s x 23 ho B 50 i0 21 Tryz.underlying23 hi hz1 g k cap (acs l) hs (hk ▸ hown.row) ⟨g1, 0, none⟩ 1 1 A.cells hx (by rw [acells_len hA]) (fun j u hj => by
      have h := hgb.range j u hj
      rw [Nat.zero_add] at h
      unfold Addr.add
      split
      · rename_i h0; rw [h0] at h; exact h
      · simpa using h) (all_list (one32 A)) hfit ?_
  intro w' h1 h2
  refine h (k + 1) w' (Lib.hid rfl) (Lib.hid ⟨hown.ok.app (okR_nil.cons hA), ?_⟩) (Lib.hid ⟨h2.os, h2.tape, h2.output, h2.size, fun j hj hn => h2.block j hj (fun e => hn (Option.some.inj e))⟩)
  rw [acs_app, acs_one, List.length_append, List.length_singleton, ← hk]
  exact h1
set_option maxRecDepth 100000 in
set_option maxHeartbeats 4000000 in
theorem sorted_isO (b : Nat) (l : List Am) (w : World) (h : MapF w b 1000 (gt l)) (hl : OkR l) : Calls Tryz.prog 94 #[.map (some b)] w (GivesO w (norm l)) := by
  obtain ⟨i0, hi, hz0, hz1, hz2⟩ := info_parts info46z
  have hk0 := zero27
  have hv0 := zero30
  have hlen := run_lenF h
  have hsl := h.msize_le
  obtain ⟨s, hs⟩ : ∃ s, msize w b = s := ⟨_, rfl⟩
  rw [hs] at hlen hsl
  have HS := Lib.hid hs
  have HL := Lib.hid hl
  have H := Lib.hid h
  have BL := Lib.hid h.lt
  obtain ⟨f, hf⟩ : ∃ f, gt l = f := ⟨_, rfl⟩
  have HF := Lib.hid hf
  rw [hf] at H
  clear hs hl h hf
  go_enter Tryz.func94, Tryz.ntmps94
  go_wp2_with (first
    | go_skip
    | (at_make; refine wpList_make_own _ rfl _ _ 23 rfl w.heap.size 50 i0 (.agg azero.cells.toArray) 21 Tryz.underlying23 hi hz0 hz1 .i64 .i64 _ s rfl rfl (by first | rfl | omega) (by rw [hz2]; omega) (by unfold maxLen; omega) (Nat.le_refl _) ?_; intro w1 own1 g1)
    | (refine wpList_rangeF rfl _ rfl b 1000 f rfl (H.out.kept g1 (by simp)) ?_; intro r w2 cnt er R2 ec B2))
  have W1 := Lib.hid (show Below w.heap.size w w1 from ⟨g1.os, g1.tape, g1.output, g1.size, fun k hk => g1.block k hk (by simp)⟩)
  have O1 := Lib.hid (show OwnR w1 w.heap.size (.slice (some ⟨w.heap.size, 0, none⟩) 0 s) [] from ⟨okR_nil, own1⟩)
  have RL := Lib.hid (show w.heap.size < r by have := er.out; have := (O1.out.row.lt w.heap.size rfl).2; omega)
  have CN := Lib.hid (show cnt = s by rw [ec.out, msize_below W1.out BL.out, HS.out])
  clear own1 g1
  simp only [Act.put, List.setIfInBounds_toArray, List.set_cons_succ, List.set_cons_zero]
  go_loopw [3] (fun v wr => ∃ (gg : Ky → Option Vl) (cnt : Nat) (out : List Am) (m : Nat), v = .slice (some ⟨w.heap.size, 0, none⟩) m s ∧ m = out.length ∧ OwnR wr w.heap.size (.slice (some ⟨w.heap.size, 0, none⟩) m s) out ∧ RangeF wr b r 1000 f gg cnt ∧ CI f gg out ∧ m + cnt ≤ s ∧ Below w.heap.size w wr) (fun _ wr => wr.rangeLeft b r)
  case atStart => exact ⟨f, cnt, [], 0, rfl, rfl, O1.out.below B2.out, R2.out, CI.start f, by rw [CN.out]; omega, step_ W1.out B2.out⟩
  case round =>
    obtain ⟨gg, cnt, out, m, rfl, hm, ho, hr, hc, hle, hb⟩ := hrel
    have OO := Lib.hid ho
    have RR := Lib.hid hr
    have CC := Lib.hid hc
    have BB := Lib.hid hb
    have HM := Lib.hid hm
    have LE := Lib.hid hle
    clear ho hr hc hb hm hle
    go_wp2_with (first
      | go_skip
      | refine wpList_nextF rfl _ rfl b r 1000 f gg cnt rfl RR.out ?_ ?_)
    · intro h0
      go_wp2_with fail
      have e := HM.out
      subst e
      refine (sort_is w.heap.size s w.heap.size out _ OO.out (CC.out.ok RR.out.ok) CC.out.dist (by have := LE.out; omega)).mono ?_
      rintro e w5 ⟨rfl, t, ht, hmem, hrow, ho5⟩
      have R5 := Lib.hid hrow
      have B5 := Lib.hid (BB.out.trans (ho5.below (Nat.le_refl _) BB.out.size))
      have T5 := Lib.hid (show t = norm l from CI.done HL.out (HF.out ▸ CC.out) h0.out ht hmem)
      clear ht hmem hrow ho5
      go_wp2_with fail
      go_ret
      exact ⟨⟨_, _, _, rfl, by rw [← T5.out]; exact R5.out, fun G off e => by cases e; exact Nat.le_refl _⟩, B5.out⟩
    · intro k v w1 cnt1 hg R1 lt1 N1 sz1 hen
      have VK := Lib.hid (RR.out.ok.k _ _ (RR.out.sub _ _ hg.out))
      have VV := Lib.hid (RR.out.ok.v _ _ (RR.out.sub _ _ hg.out))
      have Z1 := Lib.hid ((blk_alloc w1 48 kzero.cells).alloc (.cells vzero.cells.toArray 42))
      have Z2 := Lib.hid (blk2 w1 (.cells kzero.cells.toArray 48) 42 vzero.cells)
      have OW := Lib.hid (OO.out.only N1.out (.inr (fun j hj => by have e : w.heap.size = j := Option.some.inj hj; have := RL.out; omega)))
      have W1' := Lib.hid (show w.heap.size < w1.heap.size by have := (OW.out.row.lt w.heap.size rfl).2; exact this)
      have FT := Lib.hid (show m + 1 ≤ s by have := LE.out; have := lt1.out; omega)
      have CN := Lib.hid (CC.out.step hg.out)
      have BLr := Lib.hid (show b < w1.heap.size by have := BL.out; have := W1'.out; omega)
      go_wp2_with (first
        | go_skip
        | (refine wpList_store_ky rfl _ _ rfl w1.heap.size kzero k rfl rfl Z1.out kzero_ok.ml VK.out.ml ?_; intro w2 N2 P2; have Z3 := Lib.hid (Z2.out.only P2.out (by omega)))
        | (refine wpList_store_vl rfl _ _ rfl (w1.heap.size + 1) vzero v rfl rfl Z3.out rfl VV.out.tl ?_; intro w3 N3 P3; have B3 := Lib.hid (show Below w1.heap.size w1 w3 from (step_ (new_below w1 (.cells kzero.cells.toArray 48)) (new_below _ (.cells vzero.cells.toArray 42))).trans ((P2.out.below (Nat.le_refl _) (by simp; omega)).trans (P3.out.below (Nat.le_succ _) (by have := P2.out.size; simp at this; omega)))))
        | refine wpList_load_ky rfl _ rfl w1.heap.size 0 k rfl (N2.out.only P3.out (by omega)).range VK.out.ml ?_
        | refine wpList_load_vl rfl _ rfl (w1.heap.size + 1) 0 v rfl N3.out.range VV.out.tl ?_
        | refine wpList_build rfl 50 _ rfl [(0, .agg k.cells.toArray), (1, .agg v.cells.toArray)] rfl _ (built46 k v VK.out.ml VV.out.tl) ?_
        | (refine wpList_one46 rfl _ rfl ⟨k, v⟩ rfl ⟨VK.out, VV.out⟩ ?_; intro g4 w4 e4 N4 B4)
        | (refine wpList_fits rfl _ _ rfl w.heap.size w.heap.size m s out ⟨k, v⟩ g4 rfl rfl (OW.out.below (step_ B3.out B4.out)) HM.out ⟨VK.out, VV.out⟩ N4.out FT.out ?_; intro m5 w5 e5 O5 P5))
      have R5 := Lib.hid ((R1.out.below (step_ B3.out B4.out)).only P5.out (by have := BL.out; omega) (by have := RL.out; omega))
      have B5 := Lib.hid ((BB.out.trans (N1.out.below (Nat.le_of_lt RL.out) BB.out.size)).trans (((step_ B3.out B4.out).mono (Nat.le_of_lt W1'.out)).trans (P5.out.below (Nat.le_refl _) (Nat.le_of_lt (Nat.lt_of_lt_of_le W1'.out (Nat.le_trans B3.out.size B4.out.size))))))
      go_roundw
      case rel => exact ⟨del gg k, cnt1, out ++ [⟨k, v⟩], m5, rfl, by rw [e5.out, HM.out, List.length_append, List.length_singleton], O5.out, R5.out, CN.out, by have := e5.out; have := LE.out; have := lt1.out; omega, B5.out⟩
      case measure => rw [R5.out.left_eq, RR.out.left_eq]; exact lt1.out
end Go.Proofs.YtnpbmihbmilkbaaGreat
