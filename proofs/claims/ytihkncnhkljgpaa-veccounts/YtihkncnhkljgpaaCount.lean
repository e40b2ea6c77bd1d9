/- The contract of Count of package vec. -/
import Derived.Test.YtihkncnhkljgpaaMapsV
import Derived.Test.YtihkncnhkljgpaaInts
namespace Go.Proofs.Ytihkncnhkljgpaa
open Go.RowKit

section
variable {ops : Array Oper} {Q : Exit → Act → World → Prop} {md : Region.Mode} {S : World → Prop} {fuel : Nat} {listed : Array Bool} {a : Act} {w : World} {i : Nat} {o : Oper} {rs : List Nat}
theorem ready_lookN (ho : ops[i]? = some o) (hg : o.guard = none) (x y : Operand) (hop : o.op = .lookup 41 x y false) (b n : Nat) (f : List Int → Option Int) (k : List Int) (hx : a.eval x = .map (some b)) (hy : a.eval y = .agg (vc k).toArray) (hm : MapN w b n f) (hk : VOk k)
    (h : S w ∧ wpAnyH Try.prog md ops Q S fuel (listed.setIfInBounds i true) (a.put o.dst (.int .i64 ((f k).getD 0))) w)
    (hs : AllReadyH Try.prog md ops Q S fuel listed a w rs) : AllReadyH Try.prog md ops Q S fuel listed a w (i :: rs) := by
  refine AllReadyH.cons ho (fun K hK => ?_) hs
  have hw : Region.wanted o (yielded ops a.tmps) = true := by simp [Region.wanted, hg]
  rw [if_pos hw]
  have hr := run_lookN hm hk
  unfold Oper.wp execOp
  simp only [hop, hx, hy, Sem.run_bind, hr, Result.andThen_ok, Sem.run_pure]
  exact hK.out _ _ h.1 (fun _ => h.2)
theorem ready_entryN (ho : ops[i]? = some o) (hg : o.guard = none) (x y : Operand) (hop : o.op = .mapEntry 41 x y) (b n : Nat) (f : List Int → Option Int) (k : List Int) (hx : a.eval x = .map (some b)) (hy : a.eval y = .agg (vc k).toArray) (hm : MapN w b n f) (hn : n ≤ 50000) (hk : VOk k)
    (h : ∀ (v0 : Value) (st : Nat) (w1 : World), MapN w1 b (n + 1) (updV f k ((f k).getD 0)) → Only b w w1 → PendN w1 b st k n f (more1 f k (msize w b)) → S w1 ∧ wpAnyH Try.prog md ops Q S fuel (listed.setIfInBounds i true) (a.put o.dst (.tuple #[v0, goInt st])) w1)
    (hs : AllReadyH Try.prog md ops Q S fuel listed a w rs) : AllReadyH Try.prog md ops Q S fuel listed a w (i :: rs) := by
  refine AllReadyH.cons ho (fun K hK => ?_) hs
  have hw : Region.wanted o (yielded ops a.tmps) = true := by simp [Region.wanted, hg]
  rw [if_pos hw]
  obtain ⟨v0, st, w1, hr, h1, h2, h3⟩ := run_entryN hm hn hk
  have H := h v0 st w1 h1 (only_of_grown h2) h3
  unfold Oper.wp execOp
  simp only [hop, hx, hy, Sem.run_bind, hr, Result.andThen_ok, Sem.run_pure]
  exact hK.out _ _ H.1 (fun _ => H.2)
theorem ready_estoreN (ho : ops[i]? = some o) (hg : o.guard = none) (x y z : Operand) (hop : o.op = .entryStore 41 x y z) (b st : Nat) (k : List Int) (n : Nat) (f : List Int → Option Int) (m : Nat) (v : Int) (hx : a.eval x = .map (some b)) (hy : a.eval y = goInt st) (hz : a.eval z = .int .i64 v) {w1 : World} (hp : PendN w1 b st k n f m) (hb : w.heap[b]? = w1.heap[b]?)
    (h : ∀ w3, MapN w3 b (n + 1) (updV f k v) → msize w3 b = m → Only b w w3 → S w3 ∧ wpAnyH Try.prog md ops Q S fuel (listed.setIfInBounds i true) (a.put o.dst undef) w3)
    (hs : AllReadyH Try.prog md ops Q S fuel listed a w rs) : AllReadyH Try.prog md ops Q S fuel listed a w (i :: rs) := by
  refine AllReadyH.cons ho (fun K hK => ?_) hs
  have hw : Region.wanted o (yielded ops a.tmps) = true := by simp [Region.wanted, hg]
  rw [if_pos hw]
  obtain ⟨w3, hr, h1, h4, h2⟩ := hp w v hb
  have H := h w3 h1 h4 (only_of_grown h2)
  unfold Oper.wp execOp
  simp only [hop, hx, hy, hz, Sem.run_bind, hr, Result.andThen_ok, Sem.run_pure]
  exact hK.out _ _ H.1 (fun _ => H.2)
end
theorem upd_getD (f : List Int → Option Int) (k : List Int) : (updV f k ((f k).getD 0) k).getD 0 = (f k).getD 0 := by unfold updV; rw [if_pos rfl]; rfl
/-- The call answers a map that counts the list. -/
def GivesC (w : World) (ls : List (List Int)) (e : Ending) (w' : World) : Prop := (∃ b, e = .returned (.map (some b)) ∧ w.heap.size ≤ b ∧ MapN w' b ls.length (cnts ls) ∧ msize w' b = unl ls) ∧ Below w.heap.size w w'
set_option maxRecDepth 100000 in
set_option maxHeartbeats 4000000 in
theorem countV_is (A : Option Addr) (n cap : Nat) (ls : List (List Int)) (w : World) (h : RowG E24 w A n cap ls) (hn : n ≤ 5000) : Calls Try.prog 19 #[.slice A n cap] w (GivesC w ls) := by
  have H := Lib.hid h
  have LN := Lib.hid h.len
  have hz := zero24
  have hmm := @run_makeMap Try.prog
  clear h
  go_enter Try.func19, Try.ntmps19
  go_wp2_with fail
  clear hmm
  go_loopw [9] (fun ii wr => ∃ i : Nat, i ≤ n ∧ ii = .int .i64 i ∧ MapN wr w.heap.size i (cnts (ls.take i)) ∧ msize wr w.heap.size = unl (ls.take i) ∧ Below w.heap.size w wr) (fun ii _ => n - (intOf ii).toNat)
  case atStart => exact ⟨0, Nat.zero_le _, rfl, by rw [List.take_zero, cnts_nil]; exact mapN_made w, by unfold msize; rw [World.alloc_heap_new]; rfl, new_below w _⟩
  case round =>
    obtain ⟨i, hi, rfl, hm, hs, hb⟩ := hrel
    have MM := Lib.hid hm
    have SZ := Lib.hid hs
    have BB := Lib.hid hb
    clear hm hs hb
    by_cases hlt : i < n
    · obtain ⟨G, p, hE⟩ := (H.out.below BB.out).elem vz i hlt
      have E := Lib.hid hE
      have TK := Lib.hid (take_getDG vz (l := ls) (j := i) (by have := LN.out; omega))
      obtain ⟨x, hx⟩ : ∃ x, ls.getD i vz = x := ⟨_, rfl⟩
      rw [hx] at E TK
      clear hE hx
      have XO := Lib.hid (show VOk x from E.out.ok)
      have Z0 := Lib.hid (blk_alloc wr 24 (vc vz))
      obtain ⟨L, hL⟩ : ∃ L, ls.take i = L := ⟨_, rfl⟩
      have LL := Lib.hid (show L.length ≤ i by rw [← hL, List.length_take]; omega)
      rw [hL] at MM SZ TK
      clear hL
      have FX := Lib.hid (show (-100000 : Int) ≤ (L.count x : Int) ∧ (L.count x : Int) ≤ 100000 by have := List.count_le_length (l := L) (a := x); have := LL.out; omega)
      have MB := Lib.hid (show i ≤ 50000 by omega)
      go_wp2_with (first
        | refine wpList_indexG L24 rfl _ _ rfl A n cap G p i x _ rfl rfl (by first | rfl | omega) E.out ?_
        | refine wpList_load_v t24 rfl _ rfl G p x rfl E.out.rg XO.out.len ?_
        | (refine wpList_store_v t24 rfl _ _ rfl wr.heap.size vz x rfl rfl Z0.out rfl XO.out.len ?_; intro w3 N3 O3; have B3 := Lib.hid (box_below O3.out)))
      have MM3 := Lib.hid (MM.out.below B3.out)
      have BB3 := Lib.hid (step_ BB.out B3.out)
      have SZ3 := Lib.hid (show msize w3 w.heap.size = unl L from (msize_below B3.out MM.out.lt).trans SZ.out)
      have G5 := Lib.hid (show w.heap.size < wr.heap.size from MM.out.lt)
      obtain ⟨g5, hg5⟩ : ∃ g5, wr.heap.size = g5 := ⟨_, rfl⟩
      rw [hg5] at G5 N3 ⊢
      clear hg5 Z0 O3
      have S1 := Lib.hid (show Below w.heap.size w w3.drew ∧ Blk w3.drew g5 24 (vc x) from ⟨below_drew BB3.out, N3.out.drew⟩)
      have M1 := Lib.hid (show MapN w3.drew w.heap.size i (cnts L) from MM3.out.below (below_drew (Below.refl _ _)))
      have Z1 := Lib.hid (show msize w3.drew w.heap.size = unl L from SZ3.out)
      refine wp_region_noPanic ?_
      refine wp_region_held_drew (S := fun W => Below w.heap.size w W ∧ Blk W g5 24 (vc x)) (by kernel_rfl) S1.out (fun _ => ?_)
      refine wpAnyH_take (i := 0) (oi := { dst := some 13, op := Go.Op.move (Go.Operand.tmp 3), type := 41, pos := _, after := #[], guard := none }) (v := ?_) rfl (by kernel_rfl) (by kernel_rfl) (by kernel_rfl) (fun _ _ _ h => h) (Or.inl ⟨by rfl, ?_⟩) S1.out ?_
      rotate_left
      · intro W hW; (go_simp; try with_reducible rfl)
      try simp only [Act.put, List.setIfInBounds_toArray, List.set_cons_zero, List.set_cons_succ]
      refine wpAnyH_take (i := 1) (oi := { dst := some 14, op := Go.Op.load 24 (Go.Operand.tmp 5), type := 24, pos := _, after := #[], guard := none }) (v := .agg (vc x).toArray) rfl (by kernel_rfl) (by kernel_rfl) (by kernel_rfl) (fun _ _ _ h => h) (yieldsIf_load_mid (by rfl) 24 (.tmp 5) rfl g5 0 rfl (vc x) _ (fun W hW => hW.2.range) t24.und rfl (t24.size XO.out.len)) S1.out ?_
      try simp only [Act.put, List.setIfInBounds_toArray, List.set_cons_zero, List.set_cons_succ]
      refine wpAnyH_ready (rs := [2, 4]) (by kernel_rfl) (by simp) ?_
      refine ready_lookN (o := { dst := some 15, op := Go.Op.lookup 41 (Go.Operand.tmp 13) (Go.Operand.tmp 14) false, type := 3, pos := _, after := #[{ on := 0, ground := Go.Ground.data }, { on := 1, ground := Go.Ground.data }], guard := none }) rfl rfl _ _ rfl w.heap.size i (cnts L) x rfl rfl M1.out XO.out ⟨S1.out, ?_⟩ ?_
      · skip
        try simp only [Act.put, List.setIfInBounds_toArray, List.set_cons_zero, List.set_cons_succ]
        rw [cnts_getD]
        refine wpAnyH_take (i := 3) (oi := { dst := some 16, op := Go.Op.binOp Go.BinOp.add 3 (Go.Operand.tmp 15) (Go.Operand.const (Go.Value.int Go.IntKind.i64 1)) 3, type := 3, pos := _, after := #[{ on := 2, ground := Go.Ground.data }], guard := none }) (v := .int .i64 ((L.count x : Int) + 1)) rfl (by kernel_rfl) (by kernel_rfl) (by kernel_rfl) (fun _ _ _ h => h) (Or.inl ⟨by rfl, fun W hW => exec_add1 _ rfl (L.count x : Int) rfl FX.out⟩) S1.out ?_
        try simp only [Act.put, List.setIfInBounds_toArray, List.set_cons_zero, List.set_cons_succ]
        refine wpAnyH_ready (rs := [4]) (by kernel_rfl) (by simp) ?_
        refine ready_entryN (o := { dst := some 17, op := Go.Op.mapEntry 41 (Go.Operand.tmp 13) (Go.Operand.tmp 14), type := 0, pos := _, after := #[{ on := 0, ground := Go.Ground.data }, { on := 1, ground := Go.Ground.data }, { on := 0, ground := Go.Ground.phase }, { on := 1, ground := Go.Ground.phase }, { on := 2, ground := Go.Ground.textOnly Go.Departure.mapOpAssignEntry }, { on := 3, ground := Go.Ground.textOnly Go.Departure.mapOpAssignEntry }], guard := none }) rfl rfl _ _ rfl w.heap.size i (cnts L) x rfl rfl M1.out MB.out XO.out (fun v0 st w4 m4 o4 p4 => ?_) AllReadyH.nil
        have S4 := Lib.hid (show Below w.heap.size w w4 ∧ Blk w4 g5 24 (vc x) from ⟨S1.out.1.trans (o4.below (Nat.le_refl _) S1.out.1.size), S1.out.2.only o4 (by have := G5.out; omega)⟩)
        have P4 := Lib.hid p4
        have M4 := Lib.hid m4
        clear m4 o4 p4
        refine ⟨S4.out, ?_⟩
        try simp only [Act.put, List.setIfInBounds_toArray, List.set_cons_zero, List.set_cons_succ]
        refine wpAnyH_take (i := 5) (oi := { dst := some 18, op := Go.Op.extract (Go.Operand.tmp 17) 1, type := 3, pos := _, after := #[{ on := 4, ground := Go.Ground.data }], guard := none }) (v := ?_) rfl (by kernel_rfl) (by kernel_rfl) (by kernel_rfl) (fun _ _ _ h => h) (Or.inl ⟨by rfl, ?_⟩) S4.out ?_
        rotate_left
        · intro W hW; (go_simp; try with_reducible rfl)
        try simp only [Act.put, List.setIfInBounds_toArray, List.set_cons_zero, List.set_cons_succ]
        refine wpAnyH_ready (rs := [6]) (by kernel_rfl) (by simp) ?_
        refine ready_estoreN (o := { dst := none, op := Go.Op.entryStore 41 (Go.Operand.tmp 13) (Go.Operand.tmp 18) (Go.Operand.tmp 16), type := 0, pos := _, after := #[{ on := 0, ground := Go.Ground.data }, { on := 5, ground := Go.Ground.data }, { on := 3, ground := Go.Ground.data }, { on := 4, ground := Go.Ground.chain }, { on := 0, ground := Go.Ground.phase }, { on := 1, ground := Go.Ground.phase }, { on := 2, ground := Go.Ground.phase }, { on := 3, ground := Go.Ground.phase }, { on := 4, ground := Go.Ground.phase }, { on := 5, ground := Go.Ground.phase }], guard := none }) rfl rfl _ _ _ rfl w.heap.size st x i (cnts L) _ ((L.count x : Int) + 1) rfl rfl rfl P4.out rfl (fun w5 m5 s5 o5 => ?_) AllReadyH.nil
        have S5 := Lib.hid (show Below w.heap.size w w5 ∧ Blk w5 g5 24 (vc x) from ⟨S4.out.1.trans (o5.below (Nat.le_refl _) S4.out.1.size), S4.out.2.only o5 (by have := G5.out; omega)⟩)
        refine ⟨S5.out, ?_⟩
        simp only [Act.put]
        refine wpAnyH_done (by kernel_rfl) ?_ _
        refine NoPanic.normal ?_
        have M5 := Lib.hid m5
        have Z5 := Lib.hid s5
        clear m5 s5 o5
        go_wp2_with fail
        go_roundw
        case rel => exact ⟨i + 1, by omega, by go_num, by rw [TK.out, ← cnts_snoc]; exact M5.out, by rw [TK.out, unl_snoc, Z5.out, Z1.out], S5.out.1⟩
        case measure => simp [intOf]; omega
      · skip
        refine ready_entryN (o := { dst := some 17, op := Go.Op.mapEntry 41 (Go.Operand.tmp 13) (Go.Operand.tmp 14), type := 0, pos := _, after := #[{ on := 0, ground := Go.Ground.data }, { on := 1, ground := Go.Ground.data }, { on := 0, ground := Go.Ground.phase }, { on := 1, ground := Go.Ground.phase }, { on := 2, ground := Go.Ground.textOnly Go.Departure.mapOpAssignEntry }, { on := 3, ground := Go.Ground.textOnly Go.Departure.mapOpAssignEntry }], guard := none }) rfl rfl _ _ rfl w.heap.size i (cnts L) x rfl rfl M1.out MB.out XO.out (fun v0 st w4 m4 o4 p4 => ?_) AllReadyH.nil
        have S4 := Lib.hid (show Below w.heap.size w w4 ∧ Blk w4 g5 24 (vc x) from ⟨S1.out.1.trans (o4.below (Nat.le_refl _) S1.out.1.size), S1.out.2.only o4 (by have := G5.out; omega)⟩)
        have P4 := Lib.hid p4
        have M4 := Lib.hid m4
        clear m4 o4 p4
        refine ⟨S4.out, ?_⟩
        try simp only [Act.put, List.setIfInBounds_toArray, List.set_cons_zero, List.set_cons_succ]
        refine wpAnyH_take (i := 5) (oi := { dst := some 18, op := Go.Op.extract (Go.Operand.tmp 17) 1, type := 3, pos := _, after := #[{ on := 4, ground := Go.Ground.data }], guard := none }) (v := ?_) rfl (by kernel_rfl) (by kernel_rfl) (by kernel_rfl) (fun _ _ _ h => h) (Or.inl ⟨by rfl, ?_⟩) S4.out ?_
        rotate_left
        · intro W hW; (go_simp; try with_reducible rfl)
        try simp only [Act.put, List.setIfInBounds_toArray, List.set_cons_zero, List.set_cons_succ]
        refine wpAnyH_ready (rs := [2]) (by kernel_rfl) (by simp) ?_
        refine ready_lookN (o := { dst := some 15, op := Go.Op.lookup 41 (Go.Operand.tmp 13) (Go.Operand.tmp 14) false, type := 3, pos := _, after := #[{ on := 0, ground := Go.Ground.data }, { on := 1, ground := Go.Ground.data }], guard := none }) rfl rfl _ _ rfl w.heap.size (i + 1) (updV (cnts L) x (((cnts L) x).getD 0)) x rfl rfl M4.out XO.out ⟨S4.out, ?_⟩ AllReadyH.nil
        try simp only [Act.put, List.setIfInBounds_toArray, List.set_cons_zero, List.set_cons_succ]
        rw [upd_getD, cnts_getD]
        refine wpAnyH_take (i := 3) (oi := { dst := some 16, op := Go.Op.binOp Go.BinOp.add 3 (Go.Operand.tmp 15) (Go.Operand.const (Go.Value.int Go.IntKind.i64 1)) 3, type := 3, pos := _, after := #[{ on := 2, ground := Go.Ground.data }], guard := none }) (v := .int .i64 ((L.count x : Int) + 1)) rfl (by kernel_rfl) (by kernel_rfl) (by kernel_rfl) (fun _ _ _ h => h) (Or.inl ⟨by rfl, fun W hW => exec_add1 _ rfl (L.count x : Int) rfl FX.out⟩) S4.out ?_
        try simp only [Act.put, List.setIfInBounds_toArray, List.set_cons_zero, List.set_cons_succ]
        refine wpAnyH_ready (rs := [6]) (by kernel_rfl) (by simp) ?_
        refine ready_estoreN (o := { dst := none, op := Go.Op.entryStore 41 (Go.Operand.tmp 13) (Go.Operand.tmp 18) (Go.Operand.tmp 16), type := 0, pos := _, after := #[{ on := 0, ground := Go.Ground.data }, { on := 5, ground := Go.Ground.data }, { on := 3, ground := Go.Ground.data }, { on := 4, ground := Go.Ground.chain }, { on := 0, ground := Go.Ground.phase }, { on := 1, ground := Go.Ground.phase }, { on := 2, ground := Go.Ground.phase }, { on := 3, ground := Go.Ground.phase }, { on := 4, ground := Go.Ground.phase }, { on := 5, ground := Go.Ground.phase }], guard := none }) rfl rfl _ _ _ rfl w.heap.size st x i (cnts L) _ ((L.count x : Int) + 1) rfl rfl rfl P4.out rfl (fun w5 m5 s5 o5 => ?_) AllReadyH.nil
        have S5 := Lib.hid (show Below w.heap.size w w5 ∧ Blk w5 g5 24 (vc x) from ⟨S4.out.1.trans (o5.below (Nat.le_refl _) S4.out.1.size), S4.out.2.only o5 (by have := G5.out; omega)⟩)
        refine ⟨S5.out, ?_⟩
        simp only [Act.put]
        refine wpAnyH_done (by kernel_rfl) ?_ _
        refine NoPanic.normal ?_
        have M5 := Lib.hid m5
        have Z5 := Lib.hid s5
        clear m5 s5 o5
        go_wp2_with fail
        go_roundw
        case rel => exact ⟨i + 1, by omega, by go_num, by rw [TK.out, ← cnts_snoc]; exact M5.out, by rw [TK.out, unl_snoc, Z5.out, Z1.out], S5.out.1⟩
        case measure => simp [intOf]; omega
    · obtain rfl : n = i := by omega
      have TK := Lib.hid (show ls.take n = ls from List.take_of_length_le (by have := LN.out; omega))
      rw [TK.out] at MM SZ
      go_wp2_with fail
      go_ret
      exact ⟨⟨w.heap.size, rfl, Nat.le_refl _, by rw [LN.out]; exact MM.out, SZ.out⟩, BB.out⟩
end Go.Proofs.Ytihkncnhkljgpaa
