/- The contracts of Equal of maps, and of Same of package lat. -/
import Derived.Test.YtkphpicfgpgkkaaFind
namespace Go.Proofs.Ytkphpicfgpgkkaa
open Go.RowKit Go.Maps

theorem nodup_len {α : Type} : ∀ (l m : List α), l.Nodup → (∀ x ∈ l, x ∈ m) → l.length ≤ m.length
  | [], _, _, _ => Nat.zero_le _
  | x :: l, m, hn, hs => by
    classical
    obtain ⟨h1, h2⟩ := List.nodup_cons.1 hn
    have hx := hs x (List.mem_cons_self ..)
    have h3 := nodup_len l (m.erase x) h2 (fun y hy => (List.mem_erase_of_ne (fun e => h1 (by rw [← e]; exact hy))).2 (hs y (List.mem_cons_of_mem _ hy)))
    rw [List.length_erase_of_mem hx] at h3
    have := List.length_pos_of_mem hx
    simp only [List.length_cons]
    omega
theorem nodup_all {α : Type} {l m : List α} (hn : l.Nodup) (hs : ∀ x ∈ l, x ∈ m) (hl : m.length ≤ l.length) : ∀ x ∈ m, x ∈ l := by
  classical
  intro x hx
  by_cases h : x ∈ l
  · exact h
  · have := nodup_len (x :: l) m (List.nodup_cons.2 ⟨h, hn⟩) (fun y hy => by
      rcases List.mem_cons.1 hy with rfl | hy
      · exact hx
      · exact hs y hy)
    simp only [List.length_cons] at this
    omega
theorem has_iff {es : List (Lit × DataW Value)} (hk : ∀ p ∈ es, WideAt.IsKeyLit p.1) (l : Lit) : Maps.has (.map es) l = true ↔ l ∈ es.map (·.1) := by
  rw [Maps.has_eq, List.any_eq_true, List.mem_map]
  constructor
  · rintro ⟨p, hp, hs⟩; exact ⟨p, hp, WideAt.sameKey_eq hs⟩
  · rintro ⟨p, hp, rfl⟩; exact ⟨p, hp, WideAt.sameKey_self (hk p hp)⟩
theorem map_size {w : World} {a b n m : Nat} {f : Ky → Option Vl} (h1 : MapF w a n f) (h2 : MapF w b m f) : msize w a = msize w b := by
  obtain ⟨D1, o1, r1⟩ := h1.own
  obtain ⟨D2, o2, r2⟩ := h2.own
  have hh : ∀ {D D' : DataW Value}, Rep D f → Rep D' f → ∀ l, Maps.has D l = true → Maps.has D' l = true ∧ ∀ z, D.atKey l z = D'.atKey l z := fun r r' l e => by
    obtain ⟨k, v, e1, e2⟩ := r.only l e
    obtain ⟨a1, a2⟩ := r'.at_ k v l e1 e2
    exact ⟨a1, fun z => by rw [a2, (r.at_ k v l e1 e2).2]⟩
  have e : D1 = D2 := Maps.ext (o1.canon law28) (o2.canon law28) (fun l => by
    rw [Bool.eq_iff_iff]
    exact ⟨fun e => (hh r1 r2 l e).1, fun e => (hh r2 r1 l e).1⟩) (fun l z e => (hh r1 r2 l e).2 z)
  rw [← (msize_is o1).1, ← (msize_is o2).1, e]
theorem map_sub {w : World} {a b n m : Nat} {f g : Ky → Option Vl} (h1 : MapF w a n f) (h2 : MapF w b m g) (hs : msize w a = msize w b) (hsub : ∀ k v, f k = some v → g k = some v) : f = g := by
  obtain ⟨D1, o1, r1⟩ := h1.own
  obtain ⟨D2, o2, r2⟩ := h2.own
  obtain ⟨es1, rfl, p1, k1⟩ := o1.entries law28
  obtain ⟨es2, rfl, p2, k2⟩ := o2.entries law28
  have hl : es2.length ≤ es1.length := by
    have e1 := (msize_is o1).1; have e2 := (msize_is o2).1
    rw [Maps.size_eq] at e1 e2
    omega
  have key : ∀ l, l ∈ es2.map (·.1) → l ∈ es1.map (·.1) := nodup_all (l := es1.map (·.1)) (m := es2.map (·.1)) (List.pairwise_map.2 p1) (fun l hl => by
    rw [← has_iff k1] at hl
    rw [← has_iff k2]
    obtain ⟨k, v, e1, e2⟩ := r1.only l hl
    exact (r2.at_ k v l (hsub k v e1) e2).1) (by simp; exact hl)
  funext k
  cases e : g k with
  | none =>
    cases e2 : f k with
    | none => rfl
    | some v => rw [hsub k v e2] at e; cases e
  | some v =>
    have hk := h2.ok.k k v e
    obtain ⟨l, hl⟩ := key28 hk
    have h3 := (has_iff k1 l).2 (key l ((has_iff k2 l).1 (r2.at_ k v l e hl).1))
    obtain ⟨k', v', e1, e2⟩ := r1.only l h3
    obtain rfl := key_same hk (h1.ok.k _ _ e1) hl e2
    rw [hsub k v' e1] at e
    rw [e1, e]
theorem wpList_lookup_okF {ops : Array Oper} {rest : List Oper} {op : Oper} {a : Act} {w : World} {Q : Exit → Act → World → Prop} (hgd : op.guard = none) (x y : Operand) (ho : op.op = .lookup 51 x y true) (b n : Nat) (f : Ky → Option Vl) (k : Ky) (r : Option Vl) (hx : a.eval x = .map (some b)) (hy : a.eval y = .agg k.cells.toArray) (hm : MapF w b n f) (hk : k.Ok) (hf : f k = r)
    (h : wpList Try.prog ops Q rest (a.put op.dst (.tuple #[.agg (r.getD vzero).cells.toArray, .bool r.isSome])) w) : wpList Try.prog ops Q (op :: rest) a w := by
  have hr := run_lookup_ok hm hk
  rw [hf] at hr
  refine wpList_val hgd _ ?_ h
  unfold execOp
  simp only [ho, hx, hy, Sem.run_bind, hr, Result.andThen_ok, Sem.run_pure]
theorem wpList_neq_vl {ops : Array Oper} {rest : List Oper} {op : Oper} {a : Act} {w : World} {Q : Exit → Act → World → Prop} (hgd : op.guard = none) (x y : Operand) (t : TypeId) (ho : op.op = .binOp .neq 32 x y t) (A B : Vl) (b : Bool) (hx : a.eval x = .agg A.cells.toArray) (hy : a.eval y = .agg B.cells.toArray) (hA : A.Ok) (hB : B.Ok) (hb : (!decide (A = B)) = b)
    (hk : wpList Try.prog ops Q rest (a.put op.dst (.bool b)) w) : wpList Try.prog ops Q (op :: rest) a w :=
  wpList_val hgd _ (by rw [exec_neq_vl x y t ho A B hx hy hA.tl hB.tl, hb]) hk
set_option maxRecDepth 100000 in
set_option maxHeartbeats 4000000 in
theorem mapsEqual_is (b1 b2 : Nat) (f1 f2 : Ky → Option Vl) (q : Bool) (w : World) (h1 : MapF w b1 1000 f1) (h2 : MapF w b2 1000 f2) (hq : Hid (q = true ↔ f1 = f2)) : Calls Try.prog 40 #[.map (some b1), .map (some b2)] w fun e w' => e = .returned (.bool q) ∧ Below w.heap.size w w' := by
  have hk0 := zero27
  have hv0 := zero30
  have l1 := run_lenF h1
  have l2 := run_lenF h2
  have s1 := h1.msize_le
  have s2 := h2.msize_le
  have H1 := Lib.hid h1
  have H2 := Lib.hid h2
  by_cases hs : msize w b1 = msize w b2
  · have HS := Lib.hid hs
    obtain ⟨s, es⟩ : ∃ s, msize w b2 = s := ⟨_, rfl⟩
    rw [hs] at l1
    rw [es] at l1 l2
    clear hs es h1 h2 s1 s2
    go_enter Try.func40, Try.ntmps40
    go_wp2_with (first
      | go_skip
      | (refine wpList_rangeF rfl _ rfl b1 1000 f1 rfl H1.out ?_; intro r w2 cnt er R2 ec B2))
    simp only [Act.put, List.setIfInBounds_toArray, List.set_cons_succ, List.set_cons_zero]
    go_loopw [16] (fun _ wr => ∃ (gg : Ky → Option Vl) (cnt : Nat), RangeF wr b1 r 1000 f1 gg cnt ∧ MapF wr b2 1000 f2 ∧ (∀ k v, f1 k = some v → gg k = some v ∨ f2 k = some v) ∧ Below w.heap.size w wr) (fun _ wr => wr.rangeLeft b1 r)
    case atStart => exact ⟨f1, cnt, R2.out, H2.out.below B2.out, fun k v e => .inl e, B2.out⟩
    case round =>
      obtain ⟨gg, cnt, hr, hm, hc, hb⟩ := hrel
      have RR := Lib.hid hr
      have MM := Lib.hid hm
      have CC := Lib.hid hc
      have BB := Lib.hid hb
      clear hr hm hc hb
      go_wp2_with (first
        | go_skip
        | refine wpList_nextF rfl _ rfl b1 r 1000 f1 gg cnt rfl RR.out ?_ ?_)
      · intro h0
        have HT := Lib.hid (show q = true from hq.out.2 (map_sub H1.out H2.out HS.out (fun k v e => (CC.out k v e).elim (fun e2 => by rw [h0.out] at e2; cases e2) id)))
        go_wp2_with fail
        go_ret
        exact ⟨ret_bool HT.out.symm, BB.out⟩
      · intro k v w1 cnt1 hg R1 lt1 N1 sz1 hen
        have VK := Lib.hid (RR.out.ok.k _ _ (RR.out.sub _ _ hg.out))
        have VV := Lib.hid (RR.out.ok.v _ _ (RR.out.sub _ _ hg.out))
        have Z1 := Lib.hid ((blk_alloc w1 28 kzero.cells).alloc (.cells vzero.cells.toArray 32))
        have Z2 := Lib.hid (blk2 w1 (.cells kzero.cells.toArray 28) 32 vzero.cells)
        have M1 := Lib.hid (MM.out.only N1.out (by have := er.out; have := H2.out.lt; omega))
        have BN := Lib.hid (BB.out.trans (N1.out.below (by have := er.out; omega) BB.out.size))
        have F1 := Lib.hid (RR.out.sub _ _ hg.out)
        cases ho : f2 k with
        | none =>
          have HO := Lib.hid ho
          have HT := Lib.hid (show q = false by
            cases e : q with
            | false => rfl
            | true => have := hq.out.1 e; rw [this, ho] at F1; cases F1.out)
          clear ho
          go_wp2_with (first
            | go_skip
            | (refine wpList_store_ky rfl _ _ rfl w1.heap.size kzero k rfl rfl Z1.out kzero_ok.ml VK.out.ml ?_; intro w2 N2 P2; have Z3 := Lib.hid (Z2.out.only P2.out (by omega)))
            | (refine wpList_store_vl rfl _ _ rfl (w1.heap.size + 1) vzero v rfl rfl Z3.out rfl VV.out.tl ?_; intro w3 N3 P3; have B3 := Lib.hid (show Below w1.heap.size w1 w3 from (step_ (new_below w1 (.cells kzero.cells.toArray 28)) (new_below _ (.cells vzero.cells.toArray 32))).trans ((P2.out.below (Nat.le_refl _) (by simp; omega)).trans (P3.out.below (Nat.le_succ _) (by have := P2.out.size; simp at this; omega)))); have M3 := Lib.hid (M1.out.below B3.out); have Z4 := Lib.hid (blk_alloc w3 32 vzero.cells))
            | refine wpList_load_ky rfl _ rfl w1.heap.size 0 k rfl (N2.out.only P3.out (by omega)).range VK.out.ml ?_
            | refine wpList_lookup_okF rfl _ _ rfl b2 1000 f2 k none rfl rfl M3.out VK.out HO.out ?_
            | (refine wpList_store_vl rfl _ _ rfl w3.heap.size vzero vzero rfl rfl Z4.out rfl rfl ?_; intro w5 N5 P5; have B5 := Lib.hid (box_below P5.out)))
          go_ret
          exact ⟨ret_bool HT.out.symm, BN.out.trans (((step_ B3.out B5.out)).mono BN.out.size)⟩
        | some u =>
          have HO := Lib.hid ho
          have UO := Lib.hid (H2.out.ok.v _ _ ho)
          by_cases hvu : v = u
          · have HE := Lib.hid (show (!decide (v = u)) = false by simp [hvu])
            have C2 := Lib.hid (show ∀ x z, f1 x = some z → del gg k x = some z ∨ f2 x = some z from fun x z e => by
              by_cases hx : x = k
              · subst hx; right; rw [F1.out] at e; cases e; rw [ho, hvu]
              · rcases CC.out x z e with h | h
                · left; unfold del; rw [if_neg hx]; exact h
                · exact .inr h)
            clear ho hvu
            go_wp2_with (first
              | go_skip
              | (refine wpList_store_ky rfl _ _ rfl w1.heap.size kzero k rfl rfl Z1.out kzero_ok.ml VK.out.ml ?_; intro w2 N2 P2; have Z3 := Lib.hid (Z2.out.only P2.out (by omega)))
              | (refine wpList_store_vl rfl _ _ rfl (w1.heap.size + 1) vzero v rfl rfl Z3.out rfl VV.out.tl ?_; intro w3 N3 P3; have B3 := Lib.hid (show Below w1.heap.size w1 w3 from (step_ (new_below w1 (.cells kzero.cells.toArray 28)) (new_below _ (.cells vzero.cells.toArray 32))).trans ((P2.out.below (Nat.le_refl _) (by simp; omega)).trans (P3.out.below (Nat.le_succ _) (by have := P2.out.size; simp at this; omega)))); have M3 := Lib.hid (M1.out.below B3.out); have Z4 := Lib.hid (blk_alloc w3 32 vzero.cells))
              | refine wpList_load_ky rfl _ rfl w1.heap.size 0 k rfl (N2.out.only P3.out (by omega)).range VK.out.ml ?_
              | refine wpList_lookup_okF rfl _ _ rfl b2 1000 f2 k (some u) rfl rfl M3.out VK.out HO.out ?_
              | (refine wpList_store_vl rfl _ _ rfl w3.heap.size vzero u rfl rfl Z4.out rfl UO.out.tl ?_; intro w5 N5 P5; have B5 := Lib.hid (box_below P5.out))
              | (refine wanted_on rfl ?_; refine wpList_load_vl rfl _ rfl (w1.heap.size + 1) 0 v rfl (N3.out.below B5.out).range VV.out.tl ?_)
              | (refine wanted_on rfl ?_; refine wpList_load_vl rfl _ rfl w3.heap.size 0 u rfl N5.out.range UO.out.tl ?_)
              | (refine wanted_on rfl ?_; refine wpList_neq_vl rfl _ _ _ rfl v u false rfl rfl VV.out UO.out HE.out ?_))
            have RB := Lib.hid (R1.out.below (step_ B3.out B5.out))
            go_roundw
            case rel => exact ⟨del gg k, cnt1, RB.out, M3.out.below B5.out, C2.out, BN.out.trans ((step_ B3.out B5.out).mono BN.out.size)⟩
            case measure => rw [RB.out.left_eq, RR.out.left_eq]; exact lt1.out
          · have HE := Lib.hid (show (!decide (v = u)) = true by simp [hvu])
            have HT := Lib.hid (show q = false by
              cases e : q with
              | false => rfl
              | true =>
                have e1 := hq.out.1 e
                have e2 := F1.out
                rw [e1, ho] at e2
                exact absurd (Option.some.inj e2).symm hvu)
            clear ho hvu
            go_wp2_with (first
              | go_skip
              | (refine wpList_store_ky rfl _ _ rfl w1.heap.size kzero k rfl rfl Z1.out kzero_ok.ml VK.out.ml ?_; intro w2 N2 P2; have Z3 := Lib.hid (Z2.out.only P2.out (by omega)))
              | (refine wpList_store_vl rfl _ _ rfl (w1.heap.size + 1) vzero v rfl rfl Z3.out rfl VV.out.tl ?_; intro w3 N3 P3; have B3 := Lib.hid (show Below w1.heap.size w1 w3 from (step_ (new_below w1 (.cells kzero.cells.toArray 28)) (new_below _ (.cells vzero.cells.toArray 32))).trans ((P2.out.below (Nat.le_refl _) (by simp; omega)).trans (P3.out.below (Nat.le_succ _) (by have := P2.out.size; simp at this; omega)))); have M3 := Lib.hid (M1.out.below B3.out); have Z4 := Lib.hid (blk_alloc w3 32 vzero.cells))
              | refine wpList_load_ky rfl _ rfl w1.heap.size 0 k rfl (N2.out.only P3.out (by omega)).range VK.out.ml ?_
              | refine wpList_lookup_okF rfl _ _ rfl b2 1000 f2 k (some u) rfl rfl M3.out VK.out HO.out ?_
              | (refine wpList_store_vl rfl _ _ rfl w3.heap.size vzero u rfl rfl Z4.out rfl UO.out.tl ?_; intro w5 N5 P5; have B5 := Lib.hid (box_below P5.out))
              | (refine wanted_on rfl ?_; refine wpList_load_vl rfl _ rfl (w1.heap.size + 1) 0 v rfl (N3.out.below B5.out).range VV.out.tl ?_)
              | (refine wanted_on rfl ?_; refine wpList_load_vl rfl _ rfl w3.heap.size 0 u rfl N5.out.range UO.out.tl ?_)
              | (refine wanted_on rfl ?_; refine wpList_neq_vl rfl _ _ _ rfl v u true rfl rfl VV.out UO.out HE.out ?_))
            go_ret
            exact ⟨ret_bool HT.out.symm, BN.out.trans ((step_ B3.out B5.out).mono BN.out.size)⟩
  · have hne : ((msize w b1 : Nat) : Int) ≠ ((msize w b2 : Nat) : Int) := by omega
    have HT := Lib.hid (show q = false by
      cases e : q with
      | false => rfl
      | true => exact absurd (map_size h1 (hq.out.1 e ▸ h2)) hs)
    obtain ⟨m1, e1⟩ : ∃ m1, msize w b1 = m1 := ⟨_, rfl⟩
    obtain ⟨m2, e2⟩ : ∃ m2, msize w b2 = m2 := ⟨_, rfl⟩
    rw [e1] at l1 hne
    rw [e2] at l2 hne
    have hd : ((m1 : Int) == (m2 : Int)) = false := beq_eq_false_iff_ne.2 hne
    clear hs h1 h2 s1 s2 e1 e2 hne
    go_enter Try.func40, Try.ntmps40
    go_wp2_with fail
    go_ret
    exact ⟨ret_bool HT.out.symm, Below.refl _ _⟩
set_option maxRecDepth 100000 in
set_option maxHeartbeats 2000000 in
theorem same_is (A B : Option Addr) (n m cap cap2 : Nat) (a b : List Am) (q : Bool) (w : World) (h : RowV w A n cap a) (h2 : RowV w B m cap2 b) (hn : n ≤ 600) (hm : m ≤ 600) (hq : Hid (same a b = q)) : Calls Try.prog 21 #[.slice A n cap, .slice B m cap2] w fun e w' => e = .returned (.bool q) ∧ Below w.heap.size w w' := by
  have HQ := Lib.hid (show q = true ↔ gt [a].flatten = gt [b].flatten by rw [List.flatten_singleton, List.flatten_singleton, ← same_gt h.ok h2.ok, hq.out])
  have RR := Lib.hid (rows_one h)
  have FF := Lib.hid (show FewR [a] from ⟨by simp, by simp; have := h.len; omega⟩)
  have FG := Lib.hid (show FewR [b] from ⟨by simp, by simp; have := h2.len; omega⟩)
  have J := Lib.hid h2
  have B0 := Lib.hid (new_below w (.cells #[.slice A n cap] 22))
  clear h h2
  go_enter Try.func21, Try.ntmps21
  go_wp2_with fail
  refine (collect_is _ _ _ [a] _ RR.out FF.out).mono ?_
  rintro e w1 ⟨⟨g1, rfl, _, m1⟩, b1⟩
  have M1 := Lib.hid m1
  have B1 := Lib.hid (step_ B0.out b1)
  clear m1 b1
  have RS := Lib.hid (rows_one (J.out.below B1.out))
  have B2 := Lib.hid (new_below w1 (.cells #[.slice B m cap2] 22))
  go_wp2_with fail
  refine (collect_is _ _ _ [b] _ RS.out FG.out).mono ?_
  rintro e w2 ⟨⟨g2, rfl, _, m2⟩, b2⟩
  have M2 := Lib.hid m2
  have B3 := Lib.hid (step_ B2.out b2)
  clear m2 b2
  go_wp2_with fail
  refine (mapsEqual_is g1 g2 _ _ q _ (M1.out.below B3.out) M2.out HQ).mono ?_
  rintro e w3 ⟨rfl, b3⟩
  have B4 := Lib.hid b3
  clear b3
  go_wp2_with fail
  go_ret
  exact ⟨rfl, step_ B1.out (step_ B3.out B4.out)⟩
end Go.Proofs.Ytkphpicfgpgkkaa
