/- The contract of collect: what waits, as a heap. -/
import Derived.Test.YtpgafijeecmgmaaGreatNums
import Derived.Test.YtpgafijeecmgmaaGreatQueue
import Derived.Test.YtpgafijeecmgmaaGreatSets
namespace Go.Proofs.YtpgafijeecmgmaaGreat
open Go.RowKit

theorem OwnN.same {w w' : World} {B : Nat} {v : Value} {l : List Int} (h : OwnN w B v l) (hs : ∀ k, v.ownBlock = some k → w'.heap[k]? = w.heap[k]?) : OwnN w' B v l := by
  refine ⟨h.ok, h.row.1, ?_⟩
  rcases h.row.2 with e | ⟨g, cap, cur, e, hb, hg, r⟩
  · exact .inl e
  · exact .inr ⟨g, cap, cur, e, hb, (hs g (by rw [e]; rfl)).trans hg, r⟩
theorem OwnN.fr {w w' : World} {B b : Nat} {v u : Value} {l : List Int} (h : OwnN w b v l) (hf : Fr B u w w') (h1 : ∀ k, v.ownBlock = some k → k ≠ B ∧ u.ownBlock ≠ some k) : OwnN w' b v l :=
  h.same fun k hk => hf.block k (h.lt hk).2 (h1 k hk).1 (h1 k hk).2
theorem OwnN.neT {w : World} {B g t : Nat} {v : Value} {l : List Int} {cs : List Value} (h : OwnN w B v l) (hb : Blk w g t cs) (ht : t ≠ 40) : v.ownBlock ≠ some g := by
  intro e
  rcases h.row.2 with ⟨rfl, _⟩ | ⟨k, cap, cur, rfl, _, hg, _⟩
  · cases e
  · have : k = g := by simpa [Value.ownBlock] using e
    subst this
    unfold Blk at hb
    rw [hb] at hg
    simp only [Option.some.injEq, Obj.cells.injEq] at hg
    exact ht hg.2.1
theorem Blk.neT {w : World} {g k t u : Nat} {cs ds : List Value} (h : Blk w g t cs) (hb : Blk w k u ds) (ht : t ≠ u) : g ≠ k := by
  intro e
  subst e
  unfold Blk at h hb
  rw [hb] at h
  simp only [Option.some.injEq, Obj.cells.injEq] at h
  exact ht h.2.1.symm
theorem Blk.fr {w w' : World} {B g t : Nat} {u : Value} {cs : List Value} (h : Blk w g t cs) (hf : Fr B u w w') (h1 : g ≠ B) (h2 : u.ownBlock ≠ some g) : Blk w' g t cs := (hf.block g h.lt h1 h2).trans h
theorem QV.blw {w w' : World} {b B cap : Nat} {A : Option Addr} {l : List Int} (h : QV w b B A cap l) (hb : Below w.heap.size w w') : QV w' b B A cap l := ⟨h.blk.below hb, h.own.below hb, h.off⟩
theorem QV.one {w w' : World} {b B g cap : Nat} {A : Option Addr} {l : List Int} (h : QV w b B A cap l) (ho : Only g w w') (h1 : B ≠ g) (h2 : (Value.slice A l.length cap).ownBlock ≠ some g) : QV w' b B A cap l :=
  ⟨h.blk.only ho h1, h.own.only ho (fun k hk e => h2 (by rw [hk, e])), h.off⟩
theorem run_num0 (w : World) : (Instr.buildSlice 89 0 #[]).run Tryz.prog w = .ok (.slice (some ⟨w.heap.size, 0, none⟩) 0 0) (w.alloc (.cells #[] 40)) := by
  have hsz := Tryz.sizeOf40
  simp [Instr.buildSlice, run_underlying u79, hsz, Instr.fill, newRow]
  congr 2
  kernel_rfl
section
variable {ops : Array Oper} {rest : List Oper} {op : Oper} {a : Act} {w : World} {Q : Exit → Act → World → Prop}
theorem wpList_num0 (hgd : op.guard = none) (ho : op.op = .buildSlice 89 0 #[])
    (h : ∀ g w', Hid (g = w.heap.size) → Hid (OwnN w' w.heap.size (.slice (some ⟨g, 0, none⟩) 0 0) []) → Hid (Below w.heap.size w w') → wpList Tryz.prog ops Q rest (a.put op.dst (.slice (some ⟨g, 0, none⟩) 0 0)) w') : wpList Tryz.prog ops Q (op :: rest) a w := by
  refine wpList_plain hgd fun K hK => ?_
  have H := h w.heap.size (w.alloc (.cells #[] 40)) (Lib.hid rfl) (Lib.hid ⟨nums_nil, World.ownsRow_lit w #[] 0 (Nat.le_refl _) (by decide) rfl⟩) (Lib.hid (new_below w _))
  unfold Oper.wp execOp
  simp [ho, run_num0]
  exact hK _ _ H
theorem wpList_box_q (hgd : op.guard = none) (x : Operand) (ho : op.op = .box 89 x) (A : Option Addr) (n c : Nat) (hx : a.eval x = .slice A n c)
    (h : ∀ g w', Hid (g = w.heap.size) → Hid (Blk w' g 89 [.slice A n c]) → Hid (Below w.heap.size w w') → wpList Tryz.prog ops Q rest (a.put op.dst (.pointer (some ⟨g, 0, none⟩))) w') : wpList Tryz.prog ops Q (op :: rest) a w := by
  refine wpList_plain hgd fun K hK => ?_
  have H := h w.heap.size (w.alloc (.cells #[.slice A n c] 89)) (Lib.hid rfl) (Lib.hid (blk_alloc w 89 [.slice A n c])) (Lib.hid (new_below w _))
  have hc : (Value.slice A n c).cells = #[.slice A n c] := rfl
  unfold Oper.wp execOp
  simp only [ho, hx, Sem.run_bind, Instr.box, newVar, newRow, run_newObj_alloc, Sem.run_pure, Result.andThen_ok, hc]
  exact hK _ _ H
end
theorem info61 : (Tryz.prog.info? 92).map (·.size) = some 0 := by kernel_rfl
/-- What collect hands back. -/
def GivesQ (w : World) (f l : List Int) (e : Ending) (w' : World) : Prop :=
  (∃ B A cap q, e = .returned (.pointer (some ⟨B, 0, none⟩)) ∧ w.heap.size ≤ B ∧ QV w' w.heap.size B A cap q ∧ Hp q ∧ Waits f l q) ∧ Below w.heap.size w w'
theorem take_nx {l : List Int} {j : Nat} (h : j < l.length) : l.take (j + 1) = l.take j ++ [l.getD j 0] := by
  rw [getD_at h, List.take_append_getElem h]
set_option maxRecDepth 100000 in
set_option maxHeartbeats 4000000 in
theorem collectd_is (f : List Int) (B0 : Nat) (v1 v2 : Value) (l1 l2 : List Int) (w : World) (hf : VOk f) (hb : Blk w B0 27 [v1, v2]) (h1 : NumsAt w v1 l1) (h2 : NumsAt w v2 l2) (hn1 : l1.length ≤ 2000) (hn2 : l2.length ≤ 2000) :
    Calls Tryz.prog 34 #[.agg (vc f).toArray, .slice (some ⟨B0, 0, none⟩) 2 2] w (GivesQ w f (l1 ++ l2)) := by
  have HF := Lib.hid hf
  have HB := Lib.hid hb
  have H1 := Lib.hid h1
  have H2 := Lib.hid h2
  clear hf hb h1 h2
  go_enter Tryz.func34, Tryz.ntmps34
  go_wp2_with (first
    | (refine wpList_box_cs rfl _ rfl (vc f) rfl ?_; intro g0 w1 eg0 G1 b1)
    | (refine wpList_num0 rfl rfl ?_; intro gq w2 egq O2 b2)
    | (refine wpList_box_q rfl _ rfl _ 0 0 rfl ?_; intro BQ w3 eBQ K3 b3)
    | (refine wpList_makeD rfl rfl ?_; intro bm w4 ebm M4 b4))
  have c2 := Lib.hid (b1.out.trans (b2.out.mono b1.out.size))
  have c3 := Lib.hid (c2.out.trans (b3.out.mono c2.out.size))
  have c4 := Lib.hid (c3.out.trans (b4.out.mono c3.out.size))
  refine (concat_is B0 v1 v2 l1 l2 w4 (HB.out.below c4.out) (H1.out.below c4.out) (H2.out.below c4.out) (by omega) (by omega)).mono ?_
  obtain ⟨L, hL⟩ : ∃ L, l1 ++ l2 = L := ⟨_, rfl⟩
  have hLn : L.length ≤ 4000 := by rw [← hL, List.length_append]; omega
  rw [hL]
  rintro e w5 ⟨AL, cL, rfl, o5, b5⟩
  have s1 := b1.out.size
  have s2 := b2.out.size
  have s3 := b3.out.size
  have s4 := b4.out.size
  have lg0 := G1.out.lt
  have lgq := (O2.out.lt (k := gq) rfl).2
  have lBQ := K3.out.lt
  have lbm := M4.out.lt
  have eg := eg0.out
  have egq' := egq.out
  have eBQ' := eBQ.out
  have G5 := Lib.hid ((((G1.out.below b2.out).below b3.out).below b4.out).below b5)
  have Q5 := Lib.hid (show QV w5 w.heap.size BQ (some ⟨gq, 0, none⟩) 0 [] from
    ⟨((K3.out.below b4.out).below b5), (((O2.out.below b3.out).below b4.out).below b5).down b1.out.size, fun k hk => by
      have e : gq = k := by simpa [Value.ownBlock] using hk
      omega⟩)
  have M5 := Lib.hid (M4.out.below b5)
  have L5 := Lib.hid o5
  have B5 := Lib.hid (c4.out.trans (b5.mono c4.out.size))
  have NE5 := Lib.hid (show ∀ k, (Value.slice AL L.length cL).ownBlock = some k → k ≠ BQ ∧ (Value.slice (some ⟨gq, 0, none⟩) ([] : List Int).length 0).ownBlock ≠ some k ∧ k < w5.heap.size from fun k hk => by
    have hlt := o5.lt hk
    refine ⟨by omega, fun e => ?_, hlt.2⟩
    have e : gq = k := by simpa [Value.ownBlock] using e
    omega)
  have HBQ := Lib.hid (show w.heap.size ≤ BQ by omega)
  have g0BQ := Lib.hid (show g0 ≠ BQ by omega)
  have hbmw := Lib.hid (show w.heap.size ≤ bm by have := ebm.out; omega)
  have bmBQ := Lib.hid (show bm ≠ BQ by have := ebm.out; omega)
  clear G1 O2 K3 M4 b1 b2 b3 b4 c2 c3 c4 b5 o5 s1 s2 s3 s4 lg0 lgq lBQ lbm eg egq' eBQ' eg0 egq eBQ ebm
  go_wp2_with fail
  go_loopw [17] (fun i wr => ∃ (j : Nat) (A : Option Addr) (cap : Nat) (q : List Int), j ≤ L.length ∧ i = .int .i64 j ∧ QV wr w.heap.size BQ A cap q ∧ Hp q ∧ Waits f (L.take j) q ∧ SetM wr bm j q ∧ OwnN wr w4.heap.size (.slice AL L.length cL) L ∧ Blk wr g0 26 (vc f) ∧ (∀ k, (Value.slice AL L.length cL).ownBlock = some k → k ≠ BQ ∧ (Value.slice A q.length cap).ownBlock ≠ some k ∧ k < wr.heap.size) ∧ Below w.heap.size w wr) (fun i _ => L.length - (intOf i).toNat)
  case atStart => exact ⟨0, _, _, [], Nat.zero_le _, rfl, Q5.out, Hp.nil, Waits.nil f, M5.out, L5.out, G5.out, NE5.out, B5.out⟩
  case round =>
    obtain ⟨j, A, cap, q, hj, rfl, hq, hh, hw, hm, hl, hg, hne, hb⟩ := hrel
    have Q0 := Lib.hid hq
    have HH0 := Lib.hid hh
    have W0 := Lib.hid hw
    have M0 := Lib.hid hm
    have L0 := Lib.hid hl
    have G0 := Lib.hid hg
    have NE0' := Lib.hid hne
    have NE0 := Lib.hid (show ∀ w' : World, wr.heap.size ≤ w'.heap.size → ∀ k, (Value.slice AL L.length cL).ownBlock = some k → k ≠ BQ ∧ (Value.slice A q.length cap).ownBlock ≠ some k ∧ k < w'.heap.size from fun w' hs k hk => ⟨(hne k hk).1, (hne k hk).2.1, by have := (hne k hk).2.2; omega⟩)
    have BB := Lib.hid hb
    have hqn : q.length ≤ 4000 := by have := hw.len; rw [List.length_take] at this; omega
    clear hq hh hw hm hl hg hne hb
    by_cases hlt : j < L.length
    · obtain ⟨G, p, hE, hc, hG⟩ := L0.out.at_.elem j hlt
      obtain ⟨z, hz⟩ : ∃ z, L.getD j 0 = z := ⟨_, rfl⟩
      have hzr := Lib.hid (hz ▸ L0.out.ok.at_ j)
      rw [hz] at hc
      have E := Lib.hid hE
      clear hE
      obtain ⟨r1, hr1⟩ : ∃ r, q.contains z = r := ⟨_, rfl⟩
      cases r1 with
      | true =>
        go_wp2_with (first
          | refine wpList_indexN u24n rfl _ _ rfl _ _ _ G p j _ rfl rfl rfl E.out ?_
          | refine wpList_lookD rfl _ _ rfl bm j q z true rfl rfl M0.out hzr.out hr1 ?_
          | (refine wpList_alloc0 rfl rfl ?_; intro g1 w6 eg1 N6 b6; clear hc hG))
        have BW := Lib.hid (step_ BB.out b6.out)
        go_wp2_with fail
        go_roundw
        case rel => exact ⟨j + 1, A, cap, q, by omega, by go_num, Q0.out.blw b6.out, HH0.out, by rw [take_nx hlt, hz]; exact W0.out.skip (.inl (by simpa using hr1)), (M0.out.below b6.out).mono (by omega), L0.out.below b6.out, G0.out.below b6.out, NE0.out _ b6.out.size, BW.out⟩
        case measure => simp [intOf]; omega
      | false =>
        go_wp2_with (first
          | refine wpList_indexN u24n rfl _ _ rfl _ _ _ G p j _ rfl rfl rfl E.out ?_
          | refine wpList_lookD rfl _ _ rfl bm j q z false rfl rfl M0.out hzr.out hr1 ?_
          | (refine wpList_alloc0 rfl rfl ?_; intro g1 w6 eg1 N6 b6; clear hc hG))
        obtain ⟨r2, hr2⟩ : ∃ r, may z = r := ⟨_, rfl⟩
        refine (valid_is z r2 w6 hzr.out (Lib.hid hr2)).mono ?_
        rintro e w7 ⟨rfl, x7⟩
        have b7 := Lib.hid (step_ b6.out x7)
        clear x7
        cases r2 with
        | false =>
          have BW := Lib.hid (step_ BB.out b7.out)
          go_wp2_with fail
          go_roundw
          case rel => exact ⟨j + 1, A, cap, q, by omega, by go_num, Q0.out.blw b7.out, HH0.out, by rw [take_nx hlt, hz]; exact W0.out.skip (.inr (.inl hr2)), (M0.out.below b7.out).mono (by omega), L0.out.below b7.out, G0.out.below b7.out, NE0.out _ b7.out.size, BW.out⟩
          case measure => simp [intOf]; omega
        | true =>
          obtain ⟨r3, hr3⟩ : ∃ r, und f z = r := ⟨_, rfl⟩
          have G7 := Lib.hid (G0.out.below b7.out)
          go_wp2_with (refine wanted_on rfl ?_; refine wpList_load_v t24 rfl _ rfl g0 0 f rfl G7.out.range HF.out.len ?_)
          refine (under_is f z r3 w7 HF.out hzr.out hr2 (Lib.hid hr3)).mono ?_
          rintro e w8 ⟨rfl, x8⟩
          have b8 := Lib.hid (step_ b7.out x8)
          clear x8 G7
          cases r3 with
          | true =>
            have BW := Lib.hid (step_ BB.out b8.out)
            go_wp2_with fail
            go_roundw
            case rel => exact ⟨j + 1, A, cap, q, by omega, by go_num, Q0.out.blw b8.out, HH0.out, by rw [take_nx hlt, hz]; exact W0.out.skip (.inr (.inr hr3)), (M0.out.below b8.out).mono (by omega), L0.out.below b8.out, G0.out.below b8.out, NE0.out _ b8.out.size, BW.out⟩
            case measure => simp [intOf]; omega
          | false =>
            have M8 := Lib.hid (M0.out.below b8.out)
            have Q8 := Lib.hid (Q0.out.blw b8.out)
            have L8 := Lib.hid (L0.out.below b8.out)
            have G8 := Lib.hid (G0.out.below b8.out)
            go_wp2_with (first
              | refine wpList_build rfl 92 _ rfl [] rfl #[] (by kernel_rfl) ?_
              | (refine wpList_putD rfl _ _ _ rfl bm j q z rfl rfl rfl M8.out (by omega) hzr.out ?_; intro w9 M9 o9))
            have Q9 := Lib.hid (Q8.out.one o9.out (fun e => bmBQ.out e.symm) (Q8.out.own.neM M8.out))
            have L9 := Lib.hid (L8.out.only o9.out (fun k hk e => L8.out.neM M8.out (by rw [hk, e])))
            have G9 := Lib.hid (G8.out.only o9.out (fun e => M8.out.neq G8.out e.symm))
            have B9 := Lib.hid (step_ BB.out b8.out)
            have s9 := Lib.hid (Nat.le_trans b8.out.size o9.out.size)
            refine (hpush_is w.heap.size BQ A cap q z w9 Q9.out HH0.out hzr.out (by omega) (Nat.le_trans B9.out.size o9.out.size)).mono ?_
            rintro e w10 ⟨rfl, ⟨A', c', m, q10, h10, p10, n10⟩, f10⟩
            have hbm : w.heap.size ≤ bm := hbmw.out
            have B10 := Lib.hid (show Below w.heap.size w w10 from (B9.out.trans (o9.out.below hbm (Nat.le_trans BB.out.size b8.out.size))).trans (f10.below HBQ.out (fun k hk => (Q9.out.own.lt hk).1) (Nat.le_trans B9.out.size o9.out.size)))
            have M10 := Lib.hid (M9.out.same (f10.block bm M9.out.lt bmBQ.out (Q9.out.own.neM M9.out)))
            have L10 := Lib.hid (L9.out.fr f10 (fun k hk => ⟨(NE0.out _ (Nat.le_refl _) k hk).1, (NE0.out _ (Nat.le_refl _) k hk).2.1⟩))
            have G10 := Lib.hid (G9.out.fr f10 (G9.out.neT Q9.out.blk (by decide)) (Q9.out.own.neT G9.out (by decide)))
            have NE10 := Lib.hid (show ∀ k, (Value.slice AL L.length cL).ownBlock = some k → k ≠ BQ ∧ (Value.slice A' m.length c').ownBlock ≠ some k ∧ k < w10.heap.size from fun k hk => by
              have h0 := NE0.out wr (Nat.le_refl _) k hk
              refine ⟨h0.1, fun e => ?_, by have := s9.out; have := f10.size; omega⟩
              rcases n10 k e with e2 | e2
              · exact h0.2.1 e2
              · have := s9.out; omega)
            have Q10 := Lib.hid q10
            have H10 := Lib.hid h10
            have P10 := Lib.hid p10
            clear q10 h10 p10 n10 f10
            go_wp2_with fail
            go_roundw
            case rel =>
              refine ⟨j + 1, A', c', m, by omega, by go_num, Q10.out, H10.out, ?_, M10.out.re (fun d => P10.out.mem_iff.symm), L10.out, G10.out, NE10.out, B10.out⟩
              rw [take_nx hlt, hz]
              exact W0.out.push (by simpa using hr1) hr2 hr3 P10.out
            case measure => simp [intOf]; omega
    · obtain rfl : j = L.length := by omega
      go_wp2_with fail
      go_ret
      refine ⟨⟨BQ, A, cap, q, rfl, HBQ.out, Q0.out, HH0.out, ?_⟩, BB.out⟩
      have := W0.out
      rw [List.take_length, ← hL] at this
      exact this
end Go.Proofs.YtpgafijeecmgmaaGreat
