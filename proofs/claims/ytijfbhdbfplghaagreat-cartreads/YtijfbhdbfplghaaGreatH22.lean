/- The contract of Join of the reference. The contracts of Find and All of the reference; rows of rows. The contract of collect of package lat. -/
import Derived.Test.YtijfbhdbfplghaaGreatH21
import Derived.Test.YtijfbhdbfplghaaGreatH01
import Derived.Test.YtijfbhdbfplghaaGreatH10
namespace Go.Proofs.YtijfbhdbfplghaaGreat
open Go.RowKit
def JI (X Y : List Am) (i k : Nat) (out : List Am) : Prop := out ++ merge (X.drop i) (Y.drop k) = merge X Y
theorem merge_nil (s : List Am) : merge s [] = s := by cases s <;> simp [merge]
theorem nil_merge (t : List Am) : merge [] t = t := by simp [merge]
theorem merge_len : ∀ (n : Nat) (s t : List Am), s.length + t.length = n → (merge s t).length ≤ n := by
  intro n
  induction n using Nat.strongRecOn with
  | ind n ih =>
    intro s t hn
    match s, t with
    | [], t => rw [nil_merge]; simp at hn; omega
    | x :: s, [] => rw [merge_nil]; simp at hn ⊢; omega
    | x :: s, y :: t =>
      have h1 := ih (s.length + (y :: t).length) (by simp at hn ⊢; omega) s (y :: t) rfl
      have h2 := ih ((x :: s).length + t.length) (by simp at hn ⊢; omega) (x :: s) t rfl
      have h3 := ih (s.length + t.length) (by simp at hn ⊢; omega) s t rfl
      rw [merge]
      simp only [List.length_cons] at *
      split
      · simp only [List.length_cons]; omega
      · split
        · simp only [List.length_cons]; omega
        · simp only [List.length_cons]; omega
section
variable {X Y : List Am} {i k : Nat} {out : List Am} {x y : Am}
theorem JI.len (h : JI X Y i k out) : out.length ≤ X.length + Y.length := by
  have := merge_len _ X Y rfl
  rw [← h, List.length_append] at this; omega
theorem JI.a (h : JI X Y i k out) (hx : X.drop i = x :: X.drop (i + 1)) (hy : Y.drop k = []) : JI X Y (i + 1) k (out ++ [x]) := by
  unfold JI at *; rw [← h, hx, hy, merge_nil, merge_nil]; simp
theorem JI.b (h : JI X Y i k out) (hx : X.drop i = []) (hy : Y.drop k = y :: Y.drop (k + 1)) : JI X Y i (k + 1) (out ++ [y]) := by
  unfold JI at *; rw [← h, hx, hy, nil_merge, nil_merge]; simp
theorem JI.lt (h : JI X Y i k out) (hx : X.drop i = x :: X.drop (i + 1)) (hy : Y.drop k = y :: Y.drop (k + 1)) (hl : x.k.less y.k = true) : JI X Y (i + 1) k (out ++ [x]) := by
  unfold JI at *; rw [← h, hx, hy, merge, if_pos hl]; simp
theorem JI.gt (h : JI X Y i k out) (hx : X.drop i = x :: X.drop (i + 1)) (hy : Y.drop k = y :: Y.drop (k + 1)) (hl : x.k.less y.k = false) (hg : y.k.less x.k = true) : JI X Y i (k + 1) (out ++ [y]) := by
  unfold JI at *; rw [← h, hx, hy, merge, if_neg (by rw [hl]; decide), if_pos hg]; simp
theorem JI.eq (h : JI X Y i k out) (hx : X.drop i = x :: X.drop (i + 1)) (hy : Y.drop k = y :: Y.drop (k + 1)) (hl : x.k.less y.k = false) (hg : y.k.less x.k = false) : JI X Y (i + 1) (k + 1) (out ++ [⟨x.k, more x.v y.v⟩]) := by
  unfold JI at *; rw [← h, hx, hy, merge, if_neg (by rw [hl]; decide), if_neg (by rw [hg]; decide)]; simp
theorem JI.done (h : JI X Y X.length Y.length out) : out = merge X Y := by
  unfold JI at *; rw [← h, List.drop_length, List.drop_length, merge_nil, List.append_nil]
end
end Go.Proofs.YtijfbhdbfplghaaGreat
namespace Go.Proofs.YtijfbhdbfplghaaGreat
open Go.RowKit
theorem ready_store_vl {ops : Array Oper} {Q : Exit → Act → World → Prop} {md : Region.Mode} {S : World → Prop} {fuel : Nat} {listed : Array Bool} {a : Act} {w : World} {i : Nat} {o : Oper} {rs : List Nat} (ho : ops[i]? = some o) (hg : o.guard = none) (x y : Operand) (hop : o.op = .store 56 x y) (g : Nat) (j k : Vl) (hx : a.eval x = .pointer (some ⟨g, 0, none⟩)) (hy : a.eval y = .agg k.cells.toArray) (hb : Blk w g 56 j.cells) (hj : j.t.length = 8) (hm : k.t.length = 8)
    (h : ∀ w', Blk w' g 56 k.cells → Only g w w' → S w' ∧ wpAnyH Tryz.prog md ops Q S fuel (listed.setIfInBounds i true) (a.put o.dst undef) w')
    (hs : AllReadyH Tryz.prog md ops Q S fuel listed a w rs) : AllReadyH Tryz.prog md ops Q S fuel listed a w (i :: rs) := by
  refine AllReadyH.cons ho (fun K hK => ?_) hs
  have hw : Region.wanted o (yielded ops a.tmps) = true := by simp [Region.wanted, hg]
  rw [if_pos hw]
  have hl : j.cells.length = k.cells.length := by rw [vcells_len hj, vcells_len hm]
  have hB := Blk.setCells k.cells 0 w j.cells hb
  rw [setL_all _ _ hl] at hB
  have H := h _ hB (Only.setCells k.cells 0 w)
  refine wp_store_mid 56 x y hop g 0 k.cells.toArray hx hy (hb.there 0 _ (by rw [List.size_toArray, hl]; omega)) (by rw [List.size_toArray]; exact size30 hm) (one30 k) ?_
  exact hK.out _ _ H.1 (fun _ => H.2)
structure RowsV (w : World) (A : Option Addr) (n cap : Nat) (ls : List (List Am)) : Prop where
  len : ls.length = n
  le : n ≤ cap
  most : cap ≤ maxLen
  at_ : 0 < n → ∃ G off, A = some ⟨G, off, none⟩ ∧ G < w.heap.size ∧ ∀ i, i < n → ∃ D m c, w.cell? ⟨G, off + i, none⟩ = some (.slice D m c) ∧ RowV w D m c (ls.getD i [])
theorem RowsV.below {w w' : World} {A : Option Addr} {n cap : Nat} {ls : List (List Am)} (h : RowsV w A n cap ls) (hb : Below w.heap.size w w') : RowsV w' A n cap ls :=
  ⟨h.len, h.le, h.most, fun h0 => by
    obtain ⟨G, off, ha, hG, hr⟩ := h.at_ h0
    refine ⟨G, off, ha, Nat.lt_of_lt_of_le hG hb.size, fun i hi => ?_⟩
    obtain ⟨D, m, c, h1, h2⟩ := hr i hi
    exact ⟨D, m, c, (hb.cell (p := ⟨G, off + i, none⟩) hG).trans h1, h2.below hb⟩⟩
theorem RowsV.ok {w : World} {A : Option Addr} {n cap : Nat} {ls : List (List Am)} (h : RowsV w A n cap ls) : ∀ x ∈ ls, OkR x := fun x hx => by
  obtain ⟨i, hi, rfl⟩ := List.getElem_of_mem hx
  obtain ⟨G, off, _, _, hr⟩ := h.at_ (by have := h.len; omega)
  obtain ⟨D, m, c, _, h2⟩ := hr i (by have := h.len; omega)
  have e : ls.getD i [] = ls[i] := by simp [List.getD, List.getElem?_eq_getElem hi]
  rw [e] at h2
  exact h2.ok
structure RElem (w : World) (A : Option Addr) (n G p i : Nat) (D : Option Addr) (m c : Nat) (l : List Am) : Prop where
  ad : ∃ off, A = some ⟨G, off, none⟩ ∧ p = off + i
  lt : i < n
  blk : G < w.heap.size
  cell : w.cell? ⟨G, p, none⟩ = some (.slice D m c)
  row : RowV w D m c l
theorem RowsV.elem {w : World} {A : Option Addr} {n cap : Nat} {ls : List (List Am)} (h : RowsV w A n cap ls) (i : Nat) (hi : i < n) : ∃ G p D m c, RElem w A n G p i D m c (ls.getD i []) := by
  obtain ⟨G, off, ha, hG, hr⟩ := h.at_ (by omega)
  obtain ⟨D, m, c, h1, h2⟩ := hr i hi
  exact ⟨G, off + i, D, m, c, ⟨off, ha, rfl⟩, hi, hG, h1, h2⟩
theorem RElem.below {w w' : World} {A : Option Addr} {n G p i : Nat} {D : Option Addr} {m c : Nat} {l : List Am} (h : RElem w A n G p i D m c l) (hb : Below w.heap.size w w') : RElem w' A n G p i D m c l :=
  ⟨h.ad, h.lt, Nat.lt_of_lt_of_le h.blk hb.size, (hb.cell (p := ⟨G, p, none⟩) h.blk).trans h.cell, h.row.below hb⟩
theorem info22 : (Tryz.prog.info? 22).map (·.size) = some 1 := by kernel_rfl
theorem sizeOf22 (w : World) : (sizeOf 22).run Tryz.prog w = .ok 1 w := by
  cases hq : Tryz.prog.info? 22 with
  | none => have := info22; simp [hq] at this
  | some i =>
    have hi : i.size = 1 := by have := info22; simpa [hq] using this
    simp [sizeOf, typeInfo, hq, hi]
theorem exec_index40 {o : Oper} {a : Act} {w : World} (x y : Operand) (ho : o.op = .indexAddr 142 x y) (A : Option Addr) (n cap G p i : Nat) (D : Option Addr) (m c : Nat) (l : List Am) (z : Int) (hx : a.eval x = .slice A n cap) (hy : a.eval y = .int .i64 z) (hz : z = (i : Int)) {W : World} (h : RElem W A n G p i D m c l) :
    (execOp a.eval o).run Tryz.prog w = .ok (.value (.pointer (some ⟨G, p, none⟩))) w := by
  obtain ⟨off, hA, rfl⟩ := h.ad
  have hi := h.lt
  have hr : (Instr.indexAt 142 (.slice (some ⟨G, off, none⟩) n cap) (.int .i64 (i : Int))).run Tryz.prog w = .ok (.pointer (some ⟨G, off + i, none⟩)) w := by
    simp only [Instr.indexAt, asIntOf, Sem.run_bind, Sem.run_pure, Result.andThen_ok, run_underlying Tryz.underlying142]
    rw [if_pos ⟨by omega, by omega⟩]
    simp [Addr.add]
  unfold execOp
  simp only [ho, hx, hy, hz, hA, Sem.run_bind, hr, Result.andThen_ok, Sem.run_pure]
theorem wpList_index40 {ops : Array Oper} {rest : List Oper} {op : Oper} {a : Act} {w : World} {Q : Exit → Act → World → Prop} (hgd : op.guard = none) (x y : Operand) (ho : op.op = .indexAddr 142 x y) (A : Option Addr) (n cap G p i : Nat) (D : Option Addr) (m c : Nat) (l : List Am) (z : Int) (hx : a.eval x = .slice A n cap) (hy : a.eval y = .int .i64 z) (hz : z = (i : Int)) {W : World} (h : RElem W A n G p i D m c l)
    (hk : wpList Tryz.prog ops Q rest (a.put op.dst (.pointer (some ⟨G, p, none⟩))) w) : wpList Tryz.prog ops Q (op :: rest) a w :=
  wpList_val hgd _ (exec_index40 x y ho A n cap G p i D m c l z hx hy hz h) hk
theorem takeL_getD {ls : List (List Am)} {j : Nat} (h : j < ls.length) : ls.take (j + 1) = ls.take j ++ [ls.getD j []] := by
  rw [List.take_add_one]
  simp [List.getD, List.getElem?_eq_getElem h]
def FewR (ls : List (List Am)) : Prop := ls.length ≤ 100 ∧ ls.flatten.length ≤ 600
theorem FewR.take {ls : List (List Am)} (h : FewR ls) (j : Nat) : (ls.take j).flatten.length ≤ 600 := by
  have e : ls.flatten = (ls.take j).flatten ++ (ls.drop j).flatten := by rw [← List.flatten_append, List.take_append_drop]
  have := h.2
  rw [e, List.length_append] at this
  omega
theorem FewR.at_ {ls : List (List Am)} (h : FewR ls) (j : Nat) : (ls.getD j []).length ≤ 600 := by
  by_cases hj : j < ls.length
  · have e := h.take (j + 1)
    rw [takeL_getD hj, List.flatten_append, List.flatten_singleton, List.length_append] at e
    omega
  · simp only [List.getD, List.getElem?_eq_none (by omega : ls.length ≤ j), Option.getD_none]
    simp
end Go.Proofs.YtijfbhdbfplghaaGreat
namespace Go.Proofs.YtijfbhdbfplghaaGreat
open Go.RowKit
theorem ready_lookup {ops : Array Oper} {Q : Exit → Act → World → Prop} {md : Region.Mode} {S : World → Prop} {fuel : Nat} {listed : Array Bool} {a : Act} {w : World} {i : Nat} {o : Oper} {rs : List Nat} (ho : ops[i]? = some o) (hg : o.guard = none) (x y : Operand) (hop : o.op = .lookup 144 x y false) (b n : Nat) (f : Ky → Option Vl) (k : Ky) (hx : a.eval x = .map (some b)) (hy : a.eval y = .agg k.cells.toArray) (hm : MapF w b n f) (hk : k.Ok)
    (h : S w ∧ wpAnyH Tryz.prog md ops Q S fuel (listed.setIfInBounds i true) (a.put o.dst (.agg ((f k).getD vzero).cells.toArray)) w)
    (hs : AllReadyH Tryz.prog md ops Q S fuel listed a w rs) : AllReadyH Tryz.prog md ops Q S fuel listed a w (i :: rs) := by
  refine AllReadyH.cons ho (fun K hK => ?_) hs
  have hw : Region.wanted o (yielded ops a.tmps) = true := by simp [Region.wanted, hg]
  rw [if_pos hw]
  have hr := run_lookup hm hk
  unfold Oper.wp execOp
  simp only [hop, hx, hy, Sem.run_bind, hr, Result.andThen_ok, Sem.run_pure]
  exact hK.out _ _ h.1 (fun _ => h.2)
theorem only_of_grown {w w' : World} {b : Nat} (h : w.grownBy w' (some b)) : Only b w w' := ⟨h.os, h.tape, h.output, h.size, fun k hk hn => h.block k hk (fun e => hn (Option.some.inj e))⟩
theorem ready_update {ops : Array Oper} {Q : Exit → Act → World → Prop} {md : Region.Mode} {S : World → Prop} {fuel : Nat} {listed : Array Bool} {a : Act} {w : World} {i : Nat} {o : Oper} {rs : List Nat} (ho : ops[i]? = some o) (hg : o.guard = none) (x y z : Operand) (hop : o.op = .mapUpdate 144 x y z) (b n : Nat) (f : Ky → Option Vl) (k : Ky) (v : Vl) (hx : a.eval x = .map (some b)) (hy : a.eval y = .agg k.cells.toArray) (hz : a.eval z = .agg v.cells.toArray) (hm : MapF w b n f) (hn : n ≤ 5000) (hk : k.Ok) (hf : OkF (upd f k v))
    (h : ∀ w', MapF w' b (n + 1) (upd f k v) → Only b w w' → S w' ∧ wpAnyH Tryz.prog md ops Q S fuel (listed.setIfInBounds i true) (a.put o.dst undef) w')
    (hs : AllReadyH Tryz.prog md ops Q S fuel listed a w rs) : AllReadyH Tryz.prog md ops Q S fuel listed a w (i :: rs) := by
  refine AllReadyH.cons ho (fun K hK => ?_) hs
  have hw : Region.wanted o (yielded ops a.tmps) = true := by simp [Region.wanted, hg]
  rw [if_pos hw]
  obtain ⟨w', hr, h1, h2⟩ := run_update hm hn hk v hf
  have H := h w' h1 (only_of_grown h2)
  unfold Oper.wp execOp
  simp only [hop, hx, hy, hz, Sem.run_bind, hr, Result.andThen_ok, Sem.run_pure]
  exact hK.out _ _ H.1 (fun _ => H.2)
def GivesM (w : World) (f : Ky → Option Vl) (e : Ending) (w' : World) : Prop := (∃ b, e = .returned (.map (some b)) ∧ w.heap.size ≤ b ∧ MapF w' b 1000 f) ∧ Below w.heap.size w w'
theorem step_yes {f : Ky → Option Vl} {x : Am} (h : x.right = true) : step f x = upd f x.k (more x.v ((f x.k).getD vzero)) := by unfold step; rw [if_pos h]; rfl
theorem step_no {f : Ky → Option Vl} {x : Am} (h : x.right = false) : step f x = f := by unfold step; rw [if_neg (by rw [h]; decide)]
set_option maxRecDepth 100000 in
set_option maxHeartbeats 4000000 in
theorem collect_is (A : Option Addr) (n cap : Nat) (ls : List (List Am)) (w : World) (h : RowsV w A n cap ls) (hf : FewR ls) : Calls Tryz.prog 108 #[.slice A n cap] w (GivesM w (gt ls.flatten)) := by
  have hn : n ≤ 100 := by have := h.len; have := hf.1; omega
  have hmm := @run_makeMap Tryz.prog
  have hz := zero32
  have H := Lib.hid h
  have FF := Lib.hid hf
  have M0 := Lib.hid (mapF_made w)
  have B0 := Lib.hid (new_below w (.map #[] 0))
  clear h hf
  go_enter Tryz.func108, Tryz.ntmps108
  go_wp2_with fail
  go_loopw [11] (fun i wr => ∃ j : Nat, j ≤ n ∧ i = .int .i64 j ∧ MapF wr w.heap.size (ls.take j).flatten.length (gt (ls.take j).flatten) ∧ Below w.heap.size w wr) (fun i _ => n - (intOf i).toNat)
  case atStart => exact ⟨0, Nat.zero_le _, rfl, M0.out, B0.out⟩
  case round =>
    obtain ⟨j, hj, rfl, hv, hb⟩ := hrel
    have MM := Lib.hid hv
    have BB := Lib.hid hb
    clear hv hb
    by_cases hlt : j < n
    · obtain ⟨G, p, D1, m1, c1, hE⟩ := H.out.elem j hlt
      have E := Lib.hid (hE.below BB.out)
      have T := Lib.hid (takeL_getD (ls := ls) (j := j) (by have := H.out.len; omega))
      have LP := Lib.hid (FF.out.take j)
      have LL := Lib.hid (FF.out.at_ j)
      have hm1 : m1 ≤ 600 := by have := FF.out.at_ j; have := hE.row.len; omega
      have cell := E.out.cell
      have R1 := Lib.hid hE.row
      have HS := Lib.hid (show (ls.take (j + 1)).flatten = (ls.take j).flatten ++ ls.getD j [] by rw [T.out, List.flatten_append, List.flatten_singleton])
      obtain ⟨P, hP⟩ : ∃ P, (ls.take j).flatten = P := ⟨_, rfl⟩
      obtain ⟨L, hL⟩ : ∃ L, ls.getD j [] = L := ⟨_, rfl⟩
      rw [hP] at MM LP HS
      rw [hL] at R1 LL HS E
      clear hE hP hL
      go_wp2_with (first
        | go_skip
        | refine wpList_index40 rfl _ _ rfl A n cap G p j D1 m1 c1 _ _ rfl rfl (by first | rfl | omega) E.out ?_)
      go_loopw [17] (fun i wr => ∃ q : Nat, q ≤ m1 ∧ i = .int .i64 q ∧ MapF wr w.heap.size (P.length + q) (col (gt P) (L.take q)) ∧ Below w.heap.size w wr) (fun i _ => m1 - (intOf i).toNat)
      case atStart => exact ⟨0, Nat.zero_le _, rfl, MM.out, BB.out⟩
      case round =>
        obtain ⟨q, hq, rfl, hv, hb⟩ := hrel
        have MM := Lib.hid hv
        have BB := Lib.hid hb
        clear hv hb
        by_cases hlq : q < m1
        · obtain ⟨G1, p1, hE1⟩ := (R1.out.below BB.out).elem q hlq
          have E1 := Lib.hid hE1
          have T1 := Lib.hid (take_getD (l := L) (j := q) (by have := R1.out.len; omega))
          obtain ⟨x, hx⟩ : ∃ x, L.getD q azero = x := ⟨_, rfl⟩
          rw [hx] at E1 T1
          clear hE1 hx
          have XO := Lib.hid E1.out.ok
          have Z := Lib.hid (blk_alloc wr 58 azero.cells)
          have CS := Lib.hid (show col (gt P) (L.take (q + 1)) = step (col (gt P) (L.take q)) x by rw [T1.out, col_snoc])
          obtain ⟨f, hf⟩ : ∃ f, col (gt P) (L.take q) = f := ⟨_, rfl⟩
          rw [hf] at MM CS
          clear hf
          obtain ⟨N, hN⟩ : ∃ N, P.length + q = N := ⟨_, rfl⟩
          have NN := Lib.hid (show N ≤ 5000 by have := LP.out; omega)
          have NE := Lib.hid hN
          rw [hN] at MM
          clear hN
          cases hr : x.right with
          | false =>
            have HX := Lib.hid hr
            rw [step_no hr] at CS
            clear hr
            go_wp2_with (first
              | go_skip
              | refine wpList_index rfl _ _ rfl D1 m1 c1 G1 p1 q x _ rfl rfl (by first | rfl | omega) E1.out ?_
              | refine wpList_load_amx rfl _ rfl G1 p1 x rfl E1.out.rg XO.out ?_
              | (refine wpList_store_am rfl _ _ rfl wr.heap.size azero x rfl rfl Z.out azero_ok XO.out ?_; intro w2 N2 O2; have B2 := Lib.hid (box_below O2.out))
              | refine wpList_load_am rfl _ rfl wr.heap.size x rfl N2.out XO.out ?_)
            refine (aright_is x false _ XO.out HX).mono ?_
            rintro e w3 ⟨rfl, b3⟩
            have B3 := Lib.hid b3
            clear b3
            go_wp2_with fail
            go_roundw
            case rel => exact ⟨q + 1, by omega, by go_num, by rw [CS.out]; exact (MM.out.below (step_ B2.out B3.out)).mono (by have := NE.out; omega), step_ BB.out (step_ B2.out B3.out)⟩
            case measure => simp [intOf]; omega
          | true =>
            have HX := Lib.hid hr
            have FO := Lib.hid (show OkF (upd f x.k (more x.v ((f x.k).getD vzero))) by rw [← step_yes hr]; exact step_ok MM.out.ok XO.out)
            rw [step_yes hr] at CS
            clear hr
            go_wp2_with (first
              | go_skip
              | refine wpList_index rfl _ _ rfl D1 m1 c1 G1 p1 q x _ rfl rfl (by first | rfl | omega) E1.out ?_
              | refine wpList_load_amx rfl _ rfl G1 p1 x rfl E1.out.rg XO.out ?_
              | (refine wpList_store_am rfl _ _ rfl wr.heap.size azero x rfl rfl Z.out azero_ok XO.out ?_; intro w2 N2 O2; have B2 := Lib.hid (box_below O2.out))
              | refine wpList_load_am rfl _ rfl wr.heap.size x rfl N2.out XO.out ?_)
            have G7 := Lib.hid (show w.heap.size < wr.heap.size from MM.out.lt)
            refine (aright_is x true _ XO.out HX).mono ?_
            rintro e w3 ⟨rfl, b3⟩
            obtain ⟨g7, hg7⟩ : ∃ g7, wr.heap.size = g7 := ⟨_, rfl⟩
            have N7 := Lib.hid (N2.out.below b3)
            replace MM := Lib.hid (MM.out.below (step_ B2.out b3))
            replace BB := Lib.hid (step_ BB.out (step_ B2.out b3))
            rw [hg7] at N7 G7
            clear b3 N2 B2 Z
            go_wp2_with fail
            clear hg7
            have S1 := Lib.hid (show Below w.heap.size w w3.drew ∧ Blk w3.drew g7 58 x.cells from ⟨below_drew BB.out, N7.out.drew⟩)
            have M1 := Lib.hid (MM.out.below (below_drew (Below.refl _ _)))
            refine wp_region_noPanic ?_
            refine wp_region_held_drew (S := fun W => Below w.heap.size w W ∧ Blk W g7 58 x.cells) (by kernel_rfl) S1.out (fun _ => ?_)
            refine tkm 0 rfl S1.out ?_; try simp only [Act.put, stA, stZ, stS]
            refine tkm 1 rfl S1.out ?_; try simp only [Act.put, stA, stZ, stS]
            refine tky 2 (.agg x.k.cells.toArray) rfl (yieldsIf_load_mid (by rfl) 53 (.tmp 24) rfl g7 0 rfl x.k.cells _ (fun W hW => hW.2.ak) Tryz.underlying53 rfl (size27 XO.out.k.ml)) S1.out ?_; try simp only [Act.put, stA, stZ, stS]
            refine tkm 3 rfl S1.out ?_; try simp only [Act.put, stA, stZ, stS]
            refine tky 4 (.agg x.v.cells.toArray) rfl (yieldsIf_load_mid (by rfl) 56 (.tmp 26) rfl g7 12 rfl x.v.cells _ (fun W hW => hW.2.av XO.out) Tryz.underlying56 rfl (size30 XO.out.v.tl)) S1.out ?_; try simp only [Act.put, stA, stZ, stS]
            refine tkm 5 rfl S1.out ?_; try simp only [Act.put, stA, stZ, stS]
            refine tkm 6 rfl S1.out ?_; try simp only [Act.put, stA, stZ, stS]
            refine tky 7 (.agg x.k.cells.toArray) rfl (yieldsIf_load_mid (by rfl) 53 (.tmp 29) rfl g7 0 rfl x.k.cells _ (fun W hW => hW.2.ak) Tryz.underlying53 rfl (size27 XO.out.k.ml)) S1.out ?_; try simp only [Act.put, stA, stZ, stS]
            refine rdy [8] ?_
            refine ready_lookup (arR rfl) rfl _ _ rfl w.heap.size _ _ x.k rfl rfl M1.out XO.out.k ⟨S1.out, ?_⟩ AllReadyH.nil
            try simp only [Act.put, stA, stZ, stS]
            refine rdy [9] ?_
            refine AllReadyH.cons (arR rfl) (fun K hK => ?_) AllReadyH.nil
            go_simp
            refine (amore_is x.v ((f x.k).getD vzero) _ XO.out.v (getD_ok (MM.out.ok.o x.k))).mono ?_
            rintro e w4 ⟨rfl, b4⟩
            have S4 := Lib.hid (show Below w.heap.size w w4 ∧ Blk w4 g7 58 x.cells from ⟨step_ S1.out.1 b4, S1.out.2.below b4⟩)
            have M4 := Lib.hid (M1.out.below b4)
            clear b4
            go_wp2_with fail
            refine hK.out _ _ ?_ (fun _ => ?_)
            · exact S4.out
            clear hK K
            try simp only [Act.put, stA, stZ, stS]
            refine rdy [10] ?_
            refine ready_update (arR rfl) rfl _ _ _ rfl w.heap.size _ _ x.k (more x.v ((f x.k).getD vzero)) rfl rfl rfl M4.out NN.out XO.out.k FO.out (fun w5 m5 o5 => ?_) AllReadyH.nil
            have S5 := Lib.hid (show Below w.heap.size w w5 ∧ Blk w5 g7 58 x.cells from ⟨S4.out.1.trans (o5.below (Nat.le_refl _) S4.out.1.size), S4.out.2.only o5 (by have := G7.out; omega)⟩)
            have M5 := Lib.hid m5
            clear m5 o5
            refine ⟨S5.out, ?_⟩
            simp only [Act.put]
            refine wpAnyH_done (by kernel_rfl) ?_ _
            refine NoPanic.normal ?_
            go_wp2_with fail
            go_roundw
            case rel => exact ⟨q + 1, by omega, by go_num, by rw [CS.out]; exact M5.out.mono (by have := NE.out; omega), S5.out.1⟩
            case measure => simp [intOf]; omega
        · obtain rfl : q = m1 := by omega
          have TL := Lib.hid (show L.take q = L from List.take_of_length_le (by have := R1.out.len; omega))
          go_wp2_with fail
          go_roundw
          case rel => exact ⟨j + 1, by omega, by go_num, by rw [HS.out]; have h := MM.out; rw [TL.out] at h; unfold gt at h ⊢; rw [col_app]; exact h.mono (by rw [List.length_append]; have := R1.out.len; omega), BB.out⟩
          case measure => simp [intOf]; omega
    · obtain rfl : j = n := by omega
      have HS := Lib.hid (show ls.take j = ls from List.take_of_length_le (by have := H.out.len; omega))
      have LP := Lib.hid (FF.out.take j)
      go_wp2_with fail
      go_ret
      exact ⟨⟨_, rfl, Nat.le_refl _, by have h := MM.out; have := LP.out; rw [HS.out] at h this; exact h.mono (by omega)⟩, BB.out⟩
end Go.Proofs.YtijfbhdbfplghaaGreat
