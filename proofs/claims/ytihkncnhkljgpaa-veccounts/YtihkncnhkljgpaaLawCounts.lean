/- The walk of VecCounts. -/
import Derived.Test.YtihkncnhkljgpaaRefPk
import Derived.Test.YtihkncnhkljgpaaJoins
namespace Go.Proofs.Ytihkncnhkljgpaa
open Go.RowKit

theorem exec_lookN {o : Oper} {a : Act} {w : World} (x y : Operand) (ho : o.op = .lookup 41 x y false) (b n : Nat) (f : List Int → Option Int) (k : List Int) (hx : a.eval x = .map (some b)) (hy : a.eval y = .agg (vc k).toArray) (hm : MapN w b n f) (hk : VOk k) :
    (execOp a.eval o).run Try.prog w = .ok (.value (.int .i64 ((f k).getD 0))) w := by
  have hr := run_lookN hm hk
  unfold execOp
  simp only [ho, hx, hy, Sem.run_bind, hr, Result.andThen_ok, Sem.run_pure]
theorem RowG.takeG {α : Type} {E : ElT α} {w : World} {A : Option Addr} {n cap i : Nat} {l : List α} (h : RowG E w A n cap l) (hi : i ≤ n) : RowG E w A i cap (l.take i) :=
  ⟨fun a ha => h.ok a (List.mem_of_mem_take ha), by rw [List.length_take, h.len]; omega, by have := h.le; omega, h.most, fun h0 => by
    obtain ⟨G, off, ha, hG, hr⟩ := h.at_ (by omega)
    refine ⟨G, off, ha, hG, fun k hk => ?_⟩
    rw [List.getElem_take]
    exact hr k (by rw [List.length_take] at hk; omega)⟩
theorem exec_cut {o : Oper} {a : Act} {w : World} (x y : Operand) (ho : o.op = .slice 39 x none (some y) none) (A : Option Addr) (n cap i : Nat) (hx : a.eval x = .slice A n cap) (hy : a.eval y = .int .i64 (i : Int)) (hi : i ≤ n) (hc : n ≤ cap) :
    (execOp a.eval o).run Try.prog w = .ok (.value (.slice A i cap)) w := by
  unfold execOp
  simp only [ho, hx, Option.map_some, Option.map_none, hy]
  have h1 : i ≤ cap := by omega
  cases A <;> simp [go_sem, h1]
theorem isSome_count (L : List (List Int)) (x : List Int) : (cnts L x).isSome = !decide (L.count x = 0) := by
  unfold cnts
  by_cases h : x ∈ L
  · have := List.count_pos_iff.2 h
    simp [h]; omega
  · have := List.count_eq_zero_of_not_mem h
    simp [h, this]
set_option maxRecDepth 100000 in
set_option maxHeartbeats 16000000 in
theorem vecCounts_is (A : Option Addr) (n cap : Nat) (ls : List (List Int)) (w : World) (h : VsV w A n cap ls) : Calls Try.prog 5 #[.slice A n cap] w fun e w' => e = .returned (.bool true) ∧ Below w.heap.size w w' := by
  have H := Lib.hid h.g23
  have LN := Lib.hid h.len
  have HLE := Lib.hid h.le
  clear h
  by_cases hn : 20 < n
  · have hn' : (20 : Int) < (n : Int) := by omega
    go_enter Try.func5, Try.ntmps5
    go_wp2_with fail
    refine (alive_is _).mono ?_
    rintro e w1 ⟨rfl, b1⟩
    have B1 := Lib.hid b1
    clear b1
    go_wp2_with fail
    go_ret
    exact ⟨rfl, B1.out⟩
  have hn' : ¬ (20 : Int) < (n : Int) := by omega
  have hn2 : n ≤ 20 := by omega
  clear hn
  go_enter Try.func5, Try.ntmps5
  go_wp2_with fail
  go_loopw [3, 4] (fun v ii wr => ∃ i : Nat, i ≤ n ∧ ii = .int .i64 i ∧ OwnG E24 wr w.heap.size v (ls.take i) ∧ Below w.heap.size w wr) (fun _ ii _ => n - (intOf ii).toNat)
  case atStart => exact ⟨0, Nat.zero_le _, rfl, ownG_nil _ _, Below.refl _ _⟩
  case round =>
    obtain ⟨i, hi, rfl, ho, hb⟩ := hrel
    obtain ⟨D, c, e3⟩ := ho.shape
    subst e3
    have OO := Lib.hid ho
    have BB := Lib.hid hb
    clear ho hb
    by_cases hlt : i < n
    · obtain ⟨G, p, hE⟩ := (H.out.below BB.out).elem vz i hlt
      have E := Lib.hid hE
      have TK := Lib.hid (take_getDG vz (l := ls) (j := i) (by have := LN.out; omega))
      obtain ⟨x, hx⟩ : ∃ x, ls.getD i vz = x := ⟨_, rfl⟩
      rw [hx] at E TK
      clear hE hx
      have XO := Lib.hid (show VOk x from E.out.ok)
      have LT := Lib.hid (show (ls.take i).length ≤ 5000 by rw [List.length_take]; omega)
      go_wp2_with (first
        | refine wpList_indexG L23 rfl _ _ rfl A n cap G p i x _ rfl rfl (by first | rfl | omega) E.out ?_
        | refine wpList_load_v t23 rfl _ rfl G p x rfl E.out.rg XO.out.len ?_
        | (refine wpList_oneG L24 rfl _ rfl x rfl XO.out ?_; intro g6 w6 e6 N6 B6)
        | (refine wpList_appG L24 rfl _ _ rfl w.heap.size _ (ls.take i) x g6 rfl rfl (OO.out.below B6.out) XO.out N6.out LT.out (Nat.le_trans BB.out.size B6.out.size) ?_; intro D7 m7 c7 w7 e7 O7 B7 G7))
      go_roundw
      case rel => exact ⟨i + 1, by omega, by go_num, by rw [TK.out]; exact O7.out, (step_ BB.out B6.out).trans B7.out⟩
      case measure => simp [intOf]; omega
    · obtain rfl : n = i := by omega
      have TK := Lib.hid (show ls.take n = ls from List.take_of_length_le (by rw [LN.out]; exact Nat.le_refl _))
      rw [TK.out, LN.out] at OO
      rw [TK.out, LN.out]
      obtain ⟨A0, n0, c0, e0, r0⟩ := OO.out.rowG L24
      injection e0 with e01 e02 e03
      subst e01 e02 e03
      have R0 := Lib.hid r0
      clear r0 OO
      go_wp2_with fail
      refine (countV_is D n c ls _ R0.out (by omega)).mono ?_
      rintro e w5 ⟨⟨b5, rfl, lb5, m5, z5⟩, q5⟩
      have M5 := Lib.hid m5
      have Z5 := Lib.hid z5
      have R5 := Lib.hid (R0.out.below q5)
      have B5 := Lib.hid (step_ BB.out q5)
      clear m5 z5 q5 lb5 R0 BB
      go_wp2_with fail
      go_loopw [6, 7] (fun uu ii wr => ∃ i : Nat, i ≤ n ∧ ii = .int .i64 i ∧ uu = .int .i64 (unl (ls.take i) : Nat) ∧ Below w5.heap.size w5 wr) (fun _ ii _ => n - (intOf ii).toNat)
      case atStart => exact ⟨0, Nat.zero_le _, rfl, rfl, Below.refl _ _⟩
      case round =>
        obtain ⟨i, hi, rfl, rfl, hb⟩ := hrel
        have BB := Lib.hid hb
        have MM := Lib.hid (M5.out.below hb)
        have RR := Lib.hid (R5.out.below hb)
        have HL := Lib.hid (H.out.below (B5.out.trans (hb.mono B5.out.size)))
        clear hb
        by_cases hlt : i < n
        · obtain ⟨G, p, hE⟩ := RR.out.elem vz i hlt
          obtain ⟨G2, p2, hF⟩ := HL.out.elem vz i hlt
          have E := Lib.hid hE
          have F := Lib.hid hF
          have TK := Lib.hid (take_getDG vz (l := ls) (j := i) (by have := LN.out; omega))
          obtain ⟨x, hx⟩ : ∃ x, ls.getD i vz = x := ⟨_, rfl⟩
          rw [hx] at E F TK
          clear hE hF hx
          have XO := Lib.hid (show VOk x from E.out.ok)
          obtain ⟨z, hz⟩ : ∃ z : Int, (ls.count x : Int) = z := ⟨_, rfl⟩
          have HC := Lib.hid hz
          have HZ := Lib.hid (show (cnts ls x).getD 0 = z by rw [cnts_getD, hz])
          obtain ⟨y, hy⟩ : ∃ y : Nat, (ls.take i).count x = y := ⟨_, rfl⟩
          have HC2 := Lib.hid hy
          have UN := Lib.hid (show unl (ls.take (i + 1)) = if y = 0 then unl (ls.take i) + 1 else unl (ls.take i) by
            rw [TK.out, unl_snoc]; unfold more1; rw [isSome_count, hy]
            by_cases h : y = 0 <;> simp [h])
          have UB := Lib.hid (show unl (ls.take i) ≤ 100 by
            unfold unl; exact Nat.le_trans (List.length_filter_le ..) (by rw [List.length_range, List.length_take]; omega))
          obtain ⟨u, hu⟩ : ∃ u, unl (ls.take i) = u := ⟨_, rfl⟩
          rw [hu] at UN UB ⊢
          clear hz hy hu
          have hul := UB.out
          go_wp2_with fail
          have S1 := Lib.hid (show Below wr.heap.size wr wr.drew from below_drew (Below.refl _ _))
          refine wp_region_noPanic ?_
          refine wp_region_held_drew (S := fun W => Below wr.heap.size wr W) (by kernel_rfl) S1.out (fun _ => ?_)
          refine wpAnyH_take (i := 0) (oi := { dst := some 33, op := Go.Op.move (Go.Operand.tmp 5), type := 41, pos := _, after := #[], guard := none }) (v := ?_) rfl (by kernel_rfl) (by kernel_rfl) (by kernel_rfl) (fun _ _ _ h => h) (Or.inl ⟨by rfl, ?_⟩) S1.out ?_
          rotate_left
          · intro W hW; (go_simp; try with_reducible rfl)
          try simp only [Act.put, List.setIfInBounds_toArray, List.set_cons_zero, List.set_cons_succ]
          refine wpAnyH_take (i := 1) (oi := { dst := some 34, op := Go.Op.move (Go.Operand.tmp 3), type := 40, pos := _, after := #[], guard := none }) (v := ?_) rfl (by kernel_rfl) (by kernel_rfl) (by kernel_rfl) (fun _ _ _ h => h) (Or.inl ⟨by rfl, ?_⟩) S1.out ?_
          rotate_left
          · intro W hW; (go_simp; try with_reducible rfl)
          try simp only [Act.put, List.setIfInBounds_toArray, List.set_cons_zero, List.set_cons_succ]
          refine wpAnyH_take (i := 2) (oi := { dst := some 35, op := Go.Op.move (Go.Operand.tmp 7), type := 3, pos := _, after := #[], guard := none }) (v := ?_) rfl (by kernel_rfl) (by kernel_rfl) (by kernel_rfl) (fun _ _ _ h => h) (Or.inl ⟨by rfl, ?_⟩) S1.out ?_
          rotate_left
          · intro W hW; (go_simp; try with_reducible rfl)
          try simp only [Act.put, List.setIfInBounds_toArray, List.set_cons_zero, List.set_cons_succ]
          refine wpAnyH_take (i := 3) (oi := { dst := some 36, op := Go.Op.indexAddr 40 (Go.Operand.tmp 34) (Go.Operand.tmp 35), type := 0, pos := _, after := #[{ on := 1, ground := Go.Ground.data }, { on := 2, ground := Go.Ground.data }], guard := none }) (v := .pointer (some ⟨G, p, none⟩)) rfl (by kernel_rfl) (by kernel_rfl) (by kernel_rfl) (fun _ _ _ h => h) (Or.inl ⟨by rfl, fun W hW => exec_indexG L24 _ _ rfl D n c G p i x _ rfl rfl (by first | rfl | omega) E.out⟩) S1.out ?_
          try simp only [Act.put, List.setIfInBounds_toArray, List.set_cons_zero, List.set_cons_succ]
          refine wpAnyH_take (i := 4) (oi := { dst := some 37, op := Go.Op.load 24 (Go.Operand.tmp 36), type := 24, pos := _, after := #[{ on := 3, ground := Go.Ground.data }], guard := none }) (v := .agg (vc x).toArray) rfl (by kernel_rfl) (by kernel_rfl) (by kernel_rfl) (fun _ _ _ h => h) (yieldsIf_load_mid (by rfl) 24 (.tmp 36) rfl G p rfl (vc x) _ (fun W hW => (E.out.below hW).rg) t24.und rfl (t24.size XO.out.len)) S1.out ?_
          try simp only [Act.put, List.setIfInBounds_toArray, List.set_cons_zero, List.set_cons_succ]
          refine wpAnyH_take (i := 5) (oi := { dst := some 38, op := Go.Op.lookup 41 (Go.Operand.tmp 33) (Go.Operand.tmp 37) false, type := 3, pos := _, after := #[{ on := 0, ground := Go.Ground.data }, { on := 4, ground := Go.Ground.data }], guard := none }) (v := .int .i64 z) rfl (by kernel_rfl) (by kernel_rfl) (by kernel_rfl) (fun _ _ _ h => h) (Or.inl ⟨by rfl, fun W hW => (exec_lookN _ _ rfl b5 ls.length (cnts ls) x rfl rfl (MM.out.below hW) XO.out).trans (by rw [HZ.out])⟩) S1.out ?_
          try simp only [Act.put, List.setIfInBounds_toArray, List.set_cons_zero, List.set_cons_succ]
          refine wpAnyH_take (i := 6) (oi := { dst := some 39, op := Go.Op.move (Go.Operand.tmp 0), type := 39, pos := _, after := #[], guard := none }) (v := ?_) rfl (by kernel_rfl) (by kernel_rfl) (by kernel_rfl) (fun _ _ _ h => h) (Or.inl ⟨by rfl, ?_⟩) S1.out ?_
          rotate_left
          · intro W hW; (go_simp; try with_reducible rfl)
          try simp only [Act.put, List.setIfInBounds_toArray, List.set_cons_zero, List.set_cons_succ]
          refine wpAnyH_take (i := 7) (oi := { dst := some 40, op := Go.Op.move (Go.Operand.tmp 0), type := 39, pos := _, after := #[], guard := none }) (v := ?_) rfl (by kernel_rfl) (by kernel_rfl) (by kernel_rfl) (fun _ _ _ h => h) (Or.inl ⟨by rfl, ?_⟩) S1.out ?_
          rotate_left
          · intro W hW; (go_simp; try with_reducible rfl)
          try simp only [Act.put, List.setIfInBounds_toArray, List.set_cons_zero, List.set_cons_succ]
          refine wpAnyH_take (i := 8) (oi := { dst := some 41, op := Go.Op.move (Go.Operand.tmp 7), type := 3, pos := _, after := #[], guard := none }) (v := ?_) rfl (by kernel_rfl) (by kernel_rfl) (by kernel_rfl) (fun _ _ _ h => h) (Or.inl ⟨by rfl, ?_⟩) S1.out ?_
          rotate_left
          · intro W hW; (go_simp; try with_reducible rfl)
          try simp only [Act.put, List.setIfInBounds_toArray, List.set_cons_zero, List.set_cons_succ]
          refine wpAnyH_take (i := 9) (oi := { dst := some 42, op := Go.Op.indexAddr 39 (Go.Operand.tmp 40) (Go.Operand.tmp 41), type := 0, pos := _, after := #[{ on := 7, ground := Go.Ground.data }, { on := 8, ground := Go.Ground.data }], guard := none }) (v := .pointer (some ⟨G2, p2, none⟩)) rfl (by kernel_rfl) (by kernel_rfl) (by kernel_rfl) (fun _ _ _ h => h) (Or.inl ⟨by rfl, fun W hW => exec_indexG L23 _ _ rfl A n cap G2 p2 i x _ rfl rfl (by first | rfl | omega) F.out⟩) S1.out ?_
          try simp only [Act.put, List.setIfInBounds_toArray, List.set_cons_zero, List.set_cons_succ]
          refine wpAnyH_take (i := 10) (oi := { dst := some 43, op := Go.Op.load 23 (Go.Operand.tmp 42), type := 23, pos := _, after := #[{ on := 9, ground := Go.Ground.data }], guard := none }) (v := .agg (vc x).toArray) rfl (by kernel_rfl) (by kernel_rfl) (by kernel_rfl) (fun _ _ _ h => h) (yieldsIf_load_mid (by rfl) 23 (.tmp 42) rfl G2 p2 rfl (vc x) _ (fun W hW => (F.out.below hW).rg) t23.und rfl (t23.size XO.out.len)) S1.out ?_
          try simp only [Act.put, List.setIfInBounds_toArray, List.set_cons_zero, List.set_cons_succ]
          refine wpAnyH_ready (rs := [11]) (by kernel_rfl) (by simp) ?_
          refine AllReadyH.cons (o := { dst := some 44, op := Go.Op.call { callee := Go.Callee.value (Go.Operand.func 20), args := #[Go.Operand.tmp 39, Go.Operand.tmp 43], argTypes := #[39, 23] }, type := 3, pos := _, after := #[{ on := 6, ground := Go.Ground.data }, { on := 10, ground := Go.Ground.data }], guard := none }) rfl (fun K hK => ?_) AllReadyH.nil
          go_simp
          refine (times_is A n cap ls x _ (HL.out.below S1.out) XO.out (by omega)).mono ?_
          rintro e w3 ⟨rfl, b3⟩
          rw [HC.out]
          have S2 := Lib.hid (step_ S1.out b3)
          clear b3
          go_wp2_with fail
          refine hK.out _ _ ?_ (fun _ => ?_)
          · exact S2.out
          clear hK K
          try simp only [Act.put, List.setIfInBounds_toArray, List.set_cons_zero, List.set_cons_succ]
          refine wpAnyH_take (i := 12) (oi := { dst := some 45, op := Go.Op.binOp Go.BinOp.neq 3 (Go.Operand.tmp 38) (Go.Operand.tmp 44) 3, type := 4, pos := _, after := #[{ on := 5, ground := Go.Ground.data }, { on := 11, ground := Go.Ground.data }], guard := none }) (v := ?_) rfl (by kernel_rfl) (by kernel_rfl) (by kernel_rfl) (fun _ _ _ h => h) (Or.inl ⟨by rfl, ?_⟩) S2.out ?_
          rotate_left
          · intro W hW; (go_simp; try with_reducible rfl)
          try simp only [Act.put, List.setIfInBounds_toArray, List.set_cons_zero, List.set_cons_succ]
          refine wpAnyH_done (by kernel_rfl) ?_ _
          refine NoPanic.normal ?_
          go_wp2_with fail
          have HL3 := Lib.hid (HL.out.below S2.out)
          have F3 := Lib.hid (F.out.below S2.out)
          have B3 := Lib.hid (step_ BB.out S2.out)
          by_cases hy0 : y = 0
          · have U2 := Lib.hid (show unl (ls.take (i + 1)) = u + 1 by rw [UN.out, if_pos hy0])
            have hyb : ((y : Int) == 0) = true := by rw [hy0]; rfl
            clear hy0
            have S1 := Lib.hid (show Below w3.heap.size w3 w3.drew from below_drew (Below.refl _ _))
            refine wp_region_noPanic ?_
            refine wp_region_held_drew (S := fun W => Below w3.heap.size w3 W) (by kernel_rfl) S1.out (fun _ => ?_)
            refine wpAnyH_take (i := 0) (oi := { dst := some 46, op := Go.Op.move (Go.Operand.tmp 0), type := 39, pos := _, after := #[], guard := none }) (v := ?_) rfl (by kernel_rfl) (by kernel_rfl) (by kernel_rfl) (fun _ _ _ h => h) (Or.inl ⟨by rfl, ?_⟩) S1.out ?_
            rotate_left
            · intro W hW; (go_simp; try with_reducible rfl)
            try simp only [Act.put, List.setIfInBounds_toArray, List.set_cons_zero, List.set_cons_succ]
            refine wpAnyH_take (i := 1) (oi := { dst := some 47, op := Go.Op.move (Go.Operand.tmp 7), type := 3, pos := _, after := #[], guard := none }) (v := ?_) rfl (by kernel_rfl) (by kernel_rfl) (by kernel_rfl) (fun _ _ _ h => h) (Or.inl ⟨by rfl, ?_⟩) S1.out ?_
            rotate_left
            · intro W hW; (go_simp; try with_reducible rfl)
            try simp only [Act.put, List.setIfInBounds_toArray, List.set_cons_zero, List.set_cons_succ]
            refine wpAnyH_take (i := 2) (oi := { dst := some 48, op := Go.Op.slice 39 (Go.Operand.tmp 46) none (some (Go.Operand.tmp 47)) none, type := 39, pos := _, after := #[{ on := 0, ground := Go.Ground.data }, { on := 1, ground := Go.Ground.data }], guard := none }) (v := .slice A i cap) rfl (by kernel_rfl) (by kernel_rfl) (by kernel_rfl) (fun _ _ _ h => h) (Or.inl ⟨by rfl, fun W hW => exec_cut _ _ rfl A n cap i rfl rfl (by omega) HLE.out⟩) S1.out ?_
            try simp only [Act.put, List.setIfInBounds_toArray, List.set_cons_zero, List.set_cons_succ]
            refine wpAnyH_take (i := 3) (oi := { dst := some 49, op := Go.Op.move (Go.Operand.tmp 0), type := 39, pos := _, after := #[], guard := none }) (v := ?_) rfl (by kernel_rfl) (by kernel_rfl) (by kernel_rfl) (fun _ _ _ h => h) (Or.inl ⟨by rfl, ?_⟩) S1.out ?_
            rotate_left
            · intro W hW; (go_simp; try with_reducible rfl)
            try simp only [Act.put, List.setIfInBounds_toArray, List.set_cons_zero, List.set_cons_succ]
            refine wpAnyH_take (i := 4) (oi := { dst := some 50, op := Go.Op.move (Go.Operand.tmp 7), type := 3, pos := _, after := #[], guard := none }) (v := ?_) rfl (by kernel_rfl) (by kernel_rfl) (by kernel_rfl) (fun _ _ _ h => h) (Or.inl ⟨by rfl, ?_⟩) S1.out ?_
            rotate_left
            · intro W hW; (go_simp; try with_reducible rfl)
            try simp only [Act.put, List.setIfInBounds_toArray, List.set_cons_zero, List.set_cons_succ]
            refine wpAnyH_take (i := 5) (oi := { dst := some 51, op := Go.Op.indexAddr 39 (Go.Operand.tmp 49) (Go.Operand.tmp 50), type := 0, pos := _, after := #[{ on := 3, ground := Go.Ground.data }, { on := 4, ground := Go.Ground.data }], guard := none }) (v := .pointer (some ⟨G2, p2, none⟩)) rfl (by kernel_rfl) (by kernel_rfl) (by kernel_rfl) (fun _ _ _ h => h) (Or.inl ⟨by rfl, fun W hW => exec_indexG L23 _ _ rfl A n cap G2 p2 i x _ rfl rfl (by first | rfl | omega) F3.out⟩) S1.out ?_
            try simp only [Act.put, List.setIfInBounds_toArray, List.set_cons_zero, List.set_cons_succ]
            refine wpAnyH_take (i := 6) (oi := { dst := some 52, op := Go.Op.load 23 (Go.Operand.tmp 51), type := 23, pos := _, after := #[{ on := 5, ground := Go.Ground.data }], guard := none }) (v := .agg (vc x).toArray) rfl (by kernel_rfl) (by kernel_rfl) (by kernel_rfl) (fun _ _ _ h => h) (yieldsIf_load_mid (by rfl) 23 (.tmp 51) rfl G2 p2 rfl (vc x) _ (fun W hW => (F3.out.below hW).rg) t23.und rfl (t23.size XO.out.len)) S1.out ?_
            try simp only [Act.put, List.setIfInBounds_toArray, List.set_cons_zero, List.set_cons_succ]
            refine wpAnyH_ready (rs := [7]) (by kernel_rfl) (by simp) ?_
            refine AllReadyH.cons (o := { dst := some 53, op := Go.Op.call { callee := Go.Callee.value (Go.Operand.func 20), args := #[Go.Operand.tmp 48, Go.Operand.tmp 52], argTypes := #[39, 23] }, type := 3, pos := _, after := #[{ on := 2, ground := Go.Ground.data }, { on := 6, ground := Go.Ground.data }], guard := none }) rfl (fun K hK => ?_) AllReadyH.nil
            go_simp
            refine (times_is A i cap (ls.take i) x _ ((HL3.out.takeG (by omega)).below S1.out) XO.out (by omega)).mono ?_
            rintro e w4 ⟨rfl, b4⟩
            rw [HC2.out]
            have S2 := Lib.hid (step_ S1.out b4)
            clear b4
            go_wp2_with fail
            refine hK.out _ _ ?_ (fun _ => ?_)
            · exact S2.out
            clear hK K
            try simp only [Act.put, List.setIfInBounds_toArray, List.set_cons_zero, List.set_cons_succ]
            refine wpAnyH_take (i := 8) (oi := { dst := some 54, op := Go.Op.binOp Go.BinOp.eql 3 (Go.Operand.tmp 53) (Go.Operand.const (Go.Value.int Go.IntKind.i64 0)) 3, type := 4, pos := _, after := #[{ on := 7, ground := Go.Ground.data }], guard := none }) (v := ?_) rfl (by kernel_rfl) (by kernel_rfl) (by kernel_rfl) (fun _ _ _ h => h) (Or.inl ⟨by rfl, ?_⟩) S2.out ?_
            rotate_left
            · intro W hW; (go_simp; try with_reducible rfl)
            try simp only [Act.put, List.setIfInBounds_toArray, List.set_cons_zero, List.set_cons_succ]
            refine wpAnyH_done (by kernel_rfl) ?_ _
            refine NoPanic.normal ?_
            go_wp2_with fail
            go_roundw
            case rel => exact ⟨i + 1, by omega, by go_num, by rw [U2.out]; go_num, B3.out.trans (S2.out.mono B3.out.size)⟩
            case measure => simp [intOf]; omega
          · have U2 := Lib.hid (show unl (ls.take (i + 1)) = u by rw [UN.out, if_neg hy0])
            have hyb : ((y : Int) == 0) = false := by simp [hy0]
            clear hy0
            have S1 := Lib.hid (show Below w3.heap.size w3 w3.drew from below_drew (Below.refl _ _))
            refine wp_region_noPanic ?_
            refine wp_region_held_drew (S := fun W => Below w3.heap.size w3 W) (by kernel_rfl) S1.out (fun _ => ?_)
            refine wpAnyH_take (i := 0) (oi := { dst := some 46, op := Go.Op.move (Go.Operand.tmp 0), type := 39, pos := _, after := #[], guard := none }) (v := ?_) rfl (by kernel_rfl) (by kernel_rfl) (by kernel_rfl) (fun _ _ _ h => h) (Or.inl ⟨by rfl, ?_⟩) S1.out ?_
            rotate_left
            · intro W hW; (go_simp; try with_reducible rfl)
            try simp only [Act.put, List.setIfInBounds_toArray, List.set_cons_zero, List.set_cons_succ]
            refine wpAnyH_take (i := 1) (oi := { dst := some 47, op := Go.Op.move (Go.Operand.tmp 7), type := 3, pos := _, after := #[], guard := none }) (v := ?_) rfl (by kernel_rfl) (by kernel_rfl) (by kernel_rfl) (fun _ _ _ h => h) (Or.inl ⟨by rfl, ?_⟩) S1.out ?_
            rotate_left
            · intro W hW; (go_simp; try with_reducible rfl)
            try simp only [Act.put, List.setIfInBounds_toArray, List.set_cons_zero, List.set_cons_succ]
            refine wpAnyH_take (i := 2) (oi := { dst := some 48, op := Go.Op.slice 39 (Go.Operand.tmp 46) none (some (Go.Operand.tmp 47)) none, type := 39, pos := _, after := #[{ on := 0, ground := Go.Ground.data }, { on := 1, ground := Go.Ground.data }], guard := none }) (v := .slice A i cap) rfl (by kernel_rfl) (by kernel_rfl) (by kernel_rfl) (fun _ _ _ h => h) (Or.inl ⟨by rfl, fun W hW => exec_cut _ _ rfl A n cap i rfl rfl (by omega) HLE.out⟩) S1.out ?_
            try simp only [Act.put, List.setIfInBounds_toArray, List.set_cons_zero, List.set_cons_succ]
            refine wpAnyH_take (i := 3) (oi := { dst := some 49, op := Go.Op.move (Go.Operand.tmp 0), type := 39, pos := _, after := #[], guard := none }) (v := ?_) rfl (by kernel_rfl) (by kernel_rfl) (by kernel_rfl) (fun _ _ _ h => h) (Or.inl ⟨by rfl, ?_⟩) S1.out ?_
            rotate_left
            · intro W hW; (go_simp; try with_reducible rfl)
            try simp only [Act.put, List.setIfInBounds_toArray, List.set_cons_zero, List.set_cons_succ]
            refine wpAnyH_take (i := 4) (oi := { dst := some 50, op := Go.Op.move (Go.Operand.tmp 7), type := 3, pos := _, after := #[], guard := none }) (v := ?_) rfl (by kernel_rfl) (by kernel_rfl) (by kernel_rfl) (fun _ _ _ h => h) (Or.inl ⟨by rfl, ?_⟩) S1.out ?_
            rotate_left
            · intro W hW; (go_simp; try with_reducible rfl)
            try simp only [Act.put, List.setIfInBounds_toArray, List.set_cons_zero, List.set_cons_succ]
            refine wpAnyH_take (i := 5) (oi := { dst := some 51, op := Go.Op.indexAddr 39 (Go.Operand.tmp 49) (Go.Operand.tmp 50), type := 0, pos := _, after := #[{ on := 3, ground := Go.Ground.data }, { on := 4, ground := Go.Ground.data }], guard := none }) (v := .pointer (some ⟨G2, p2, none⟩)) rfl (by kernel_rfl) (by kernel_rfl) (by kernel_rfl) (fun _ _ _ h => h) (Or.inl ⟨by rfl, fun W hW => exec_indexG L23 _ _ rfl A n cap G2 p2 i x _ rfl rfl (by first | rfl | omega) F3.out⟩) S1.out ?_
            try simp only [Act.put, List.setIfInBounds_toArray, List.set_cons_zero, List.set_cons_succ]
            refine wpAnyH_take (i := 6) (oi := { dst := some 52, op := Go.Op.load 23 (Go.Operand.tmp 51), type := 23, pos := _, after := #[{ on := 5, ground := Go.Ground.data }], guard := none }) (v := .agg (vc x).toArray) rfl (by kernel_rfl) (by kernel_rfl) (by kernel_rfl) (fun _ _ _ h => h) (yieldsIf_load_mid (by rfl) 23 (.tmp 51) rfl G2 p2 rfl (vc x) _ (fun W hW => (F3.out.below hW).rg) t23.und rfl (t23.size XO.out.len)) S1.out ?_
            try simp only [Act.put, List.setIfInBounds_toArray, List.set_cons_zero, List.set_cons_succ]
            refine wpAnyH_ready (rs := [7]) (by kernel_rfl) (by simp) ?_
            refine AllReadyH.cons (o := { dst := some 53, op := Go.Op.call { callee := Go.Callee.value (Go.Operand.func 20), args := #[Go.Operand.tmp 48, Go.Operand.tmp 52], argTypes := #[39, 23] }, type := 3, pos := _, after := #[{ on := 2, ground := Go.Ground.data }, { on := 6, ground := Go.Ground.data }], guard := none }) rfl (fun K hK => ?_) AllReadyH.nil
            go_simp
            refine (times_is A i cap (ls.take i) x _ ((HL3.out.takeG (by omega)).below S1.out) XO.out (by omega)).mono ?_
            rintro e w4 ⟨rfl, b4⟩
            rw [HC2.out]
            have S2 := Lib.hid (step_ S1.out b4)
            clear b4
            go_wp2_with fail
            refine hK.out _ _ ?_ (fun _ => ?_)
            · exact S2.out
            clear hK K
            try simp only [Act.put, List.setIfInBounds_toArray, List.set_cons_zero, List.set_cons_succ]
            refine wpAnyH_take (i := 8) (oi := { dst := some 54, op := Go.Op.binOp Go.BinOp.eql 3 (Go.Operand.tmp 53) (Go.Operand.const (Go.Value.int Go.IntKind.i64 0)) 3, type := 4, pos := _, after := #[{ on := 7, ground := Go.Ground.data }], guard := none }) (v := ?_) rfl (by kernel_rfl) (by kernel_rfl) (by kernel_rfl) (fun _ _ _ h => h) (Or.inl ⟨by rfl, ?_⟩) S2.out ?_
            rotate_left
            · intro W hW; (go_simp; try with_reducible rfl)
            try simp only [Act.put, List.setIfInBounds_toArray, List.set_cons_zero, List.set_cons_succ]
            refine wpAnyH_done (by kernel_rfl) ?_ _
            refine NoPanic.normal ?_
            go_wp2_with fail
            go_roundw
            case rel => exact ⟨i + 1, by omega, by go_num, by rw [U2.out], B3.out.trans (S2.out.mono B3.out.size)⟩
            case measure => simp [intOf]; omega
        · obtain rfl : n = i := by omega
          have TK2 := Lib.hid (show unl (ls.take n) = msize wr b5 by rw [TK.out, ← Z5.out, msize_below BB.out M5.out.lt])
          rw [TK2.out]
          obtain ⟨u, hu⟩ : ∃ u, msize wr b5 = u := ⟨_, rfl⟩
          have hlen := run_lenN MM.out
          rw [hu] at hlen ⊢
          have huu : ((u : Int) == (u : Int)) = true := by simp
          have B6 := Lib.hid (B5.out.trans (BB.out.mono B5.out.size))
          clear hu TK2
          go_wp2_with (first | go_skip | fail)
          refine (peaksV_is D n c ls _ RR.out (by omega)).mono ?_
          rintro e w7 ⟨⟨A7, n7, c7, rfl, i7, _⟩, q7⟩
          have I7 := Lib.hid i7
          have HL7 := Lib.hid (HL.out.below q7)
          have B7 := Lib.hid (step_ B6.out q7)
          clear i7 q7 hlen
          go_wp2_with fail
          refine (refPeaks_is A n cap ls _ HL7.out (by omega)).mono ?_
          rintro e w8 ⟨⟨A8, n8, c8, rfl, i8, _⟩, q8⟩
          have en : n8 = n7 := i8.len.symm.trans I7.out.len
          subst en
          have I8 := Lib.hid i8
          have J8 := Lib.hid (I7.out.below q8)
          have B8 := Lib.hid (step_ B7.out q8)
          have PL := Lib.hid (show n8 ≤ 5000 by rw [← i8.len]; unfold peaksV; exact Nat.le_trans (List.length_filter_le ..) (by rw [List.length_range, LN.out]; omega))
          clear i8 q8 I7
          go_wp2_with fail
          refine (sameI_is A7 A8 n8 c7 c8 (peaksV ls) _ J8.out I8.out PL.out).mono ?_
          rintro e w9 ⟨rfl, q9⟩
          have B9 := Lib.hid (step_ B8.out q9)
          clear q9
          go_wp2_with fail
          refine (alive_is _).mono ?_
          rintro e w10 ⟨rfl, q10⟩
          have B10 := Lib.hid (step_ B9.out q10)
          clear q10
          go_wp2_with fail
          go_ret
          exact ⟨rfl, B10.out⟩
end Go.Proofs.Ytihkncnhkljgpaa
