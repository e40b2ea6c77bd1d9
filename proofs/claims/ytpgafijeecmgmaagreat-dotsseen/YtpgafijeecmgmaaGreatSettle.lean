/- The contract of settle: the normal form of a floor and two rows of dots. The contracts of Add, Of, Has and Right of package dots, and of slices.Index and Contains at numbers. -/
import Derived.Test.YtpgafijeecmgmaaGreatCollectD
import Derived.Test.YtpgafijeecmgmaaGreatJoins
namespace Go.Proofs.YtpgafijeecmgmaaGreat
open Go.RowKit

/-- The call answers a set with a row of its own. -/
def GivesS (w : World) (p : List Int × List Int) (e : Ending) (w' : World) : Prop :=
  ∃ A c, e = .returned (.agg (sc p.1 (.slice A p.2.length c)).toArray) ∧ OwnN w' w.heap.size (.slice A p.2.length c) p.2 ∧ Below w.heap.size w w'
/-- How many numbers wait in the queue. -/
def qsize (w : World) (B : Nat) : Nat := match w.cell? ⟨B, 0, none⟩ with | some (.slice _ n _) => n | _ => 0
theorem QV.qsize {w : World} {b B cap : Nat} {A : Option Addr} {l : List Int} (h : QV w b B A cap l) : qsize w B = l.length := by
  unfold YtpgafijeecmgmaaGreat.qsize; rw [h.blk.cell (i := 0) rfl]
theorem QV.upto {w w' : World} {b B C cap : Nat} {A : Option Addr} {l : List Int} (h : QV w b B A cap l) (hb : Below C w w') (hB : B < C) (hk : ∀ k, (Value.slice A l.length cap).ownBlock = some k → k < C) : QV w' b B A cap l :=
  ⟨h.blk.upto hb hB, h.own.same (fun k e => hb.block k (hk k e)), h.off⟩
set_option maxRecDepth 100000 in
set_option maxHeartbeats 4000000 in
theorem settle_is (f : List Int) (B0 : Nat) (v1 v2 : Value) (l1 l2 : List Int) (w : World) (hf : VOk f) (hb : Blk w B0 27 [v1, v2]) (h1 : NumsAt w v1 l1) (h2 : NumsAt w v2 l2) (hn1 : l1.length ≤ 2000) (hn2 : l2.length ≤ 2000) :
    Calls Tryz.prog 22 #[.agg (vc f).toArray, .slice (some ⟨B0, 0, none⟩) 2 2] w (GivesS w (nrm f (l1 ++ l2))) := by
  have HF := Lib.hid hf
  have HB := Lib.hid hb
  have H1 := Lib.hid h1
  have H2 := Lib.hid h2
  clear hf hb h1 h2
  go_enter Tryz.func22, Tryz.ntmps22
  go_wp2_with (first
    | (refine wpList_box_cs rfl _ rfl (vc f) rfl ?_; intro g0 w1 eg0 G1 b1)
    | (refine wpList_load_v t24 rfl _ rfl g0 0 f rfl (G1.out.below b2.out).range HF.out.len ?_)
    | (refine wpList_build rfl 29 _ rfl [(0, .agg (vc f).toArray)] rfl _ (built_s33o f HF.out.len) ?_)
    | (have _ := R2.out; refine wpList_alloc_s t33 rfl rfl ?_; intro gs w3 egs S3 b3)
    | (refine wpList_alloc_s t33 rfl rfl ?_; intro gr w2 egr R2 b2)
    | (refine wpList_store_s t33 rfl _ _ rfl gs vz f (.slice none 0 0) none 0 0 rfl rfl S3.out vz_len HF.out.len ?_; intro w4 S4 o4; have G4 := Lib.hid (((G1.out.below b2.out).below b3.out).only o4.out (by have := G1.out.lt; have := b2.out.size; have := egs.out; omega)))
    | (refine wpList_load_v t24 rfl _ rfl g0 0 f rfl G4.out.range HF.out.len ?_))
  have c2 := Lib.hid (b1.out.trans (b2.out.mono b1.out.size))
  have c3 := Lib.hid (c2.out.trans (b3.out.mono c2.out.size))
  have egs' := egs.out
  have egr' := egr.out
  have s1 := b1.out.size
  have s2 := b2.out.size
  have s3 := b3.out.size
  have lgr := R2.out.lt
  have c4 := Lib.hid (c3.out.trans (o4.out.below (by have := c2.out.size; omega) c3.out.size))
  have R4 := Lib.hid ((R2.out.below b3.out).only o4.out (by omega))
  refine (collectd_is f B0 v1 v2 l1 l2 w4 HF.out (HB.out.below c4.out) (H1.out.below c4.out) (H2.out.below c4.out) hn1 hn2).mono ?_
  obtain ⟨L, hL⟩ : ∃ L, l1 ++ l2 = L := ⟨_, rfl⟩
  have hLn : L.length ≤ 4000 := by rw [← hL, List.length_append]; omega
  rw [hL]
  rintro e w5 ⟨⟨BQ, A0, cap0, q0, rfl, hBQ, hq5, hh5, hw5⟩, b5⟩
  have Q5 := Lib.hid (show QV w5 w4.heap.size BQ A0 cap0 q0 from hq5)
  have H5 := Lib.hid hh5
  have I5 := Lib.hid (hw5.inv HF.out)
  have N5 := Lib.hid hw5.len
  have B5 := Lib.hid (step_ c4.out b5)
  have S5 := Lib.hid (S4.out.below b5)
  have R5 := Lib.hid (R4.out.below b5)
  have s4 := o4.out.size
  have KQ := Lib.hid (show ∀ k, (Value.slice A0 q0.length cap0).ownBlock = some k → k < w5.heap.size from fun k hk => (hq5.own.lt hk).2)
  have LBQ := Lib.hid (show BQ < w5.heap.size from hq5.blk.lt)
  have HBQ := Lib.hid (show w4.heap.size ≤ BQ from hBQ)
  have hgs4 := Lib.hid (show gs < w4.heap.size by have := S3.out.lt; omega)
  have hgr4 := Lib.hid (show gr < w4.heap.size by omega)
  have hgw := Lib.hid (show w.heap.size ≤ gs ∧ w.heap.size ≤ gr ∧ w.heap.size ≤ w4.heap.size ∧ gr ≠ gs by omega)
  have hB45 := b5.size
  clear b1 b2 b3 o4 G1 G4 R2 S3 S4 R4 c2 c3 c4 b5 hq5 hh5 hw5 hBQ egs egr eg0 egs' egr' s1 s2 s3 s4 lgr
  go_wp2_with fail
  go_loopw [7, 8, 9] (fun _ _ _ wr => ∃ (f' c' q : List Int) (A Aq : Option Addr) (c cq : Nat), Blk wr gs 29 (sc f' (.slice A c'.length c)) ∧ Blk wr gr 29 (sc vz (.slice none 0 0)) ∧ OwnN wr w5.heap.size (.slice A c'.length c) c' ∧ QV wr w4.heap.size BQ Aq cq q ∧ Hp q ∧ Inv (fun d => has f L d = true) (f.sum + L.length) f' c' q ∧ c'.length + q.length ≤ L.length ∧ (∀ k, (Value.slice Aq q.length cq).ownBlock = some k → k < w5.heap.size) ∧ Below w.heap.size w wr ∧ w5.heap.size ≤ wr.heap.size) (fun _ _ _ wr => qsize wr BQ)
  case atStart => exact ⟨f, [], q0, none, A0, 0, cap0, S5.out, R5.out, ownN_nil _ _, Q5.out, H5.out, I5.out, by have := N5.out; simp; omega, KQ.out, B5.out, Nat.le_refl _⟩
  case round =>
    obtain ⟨f', c', q, A, Aq, c, cq, hs, hr, ho, hq, hh, hi, hl, hk, hb, hsz⟩ := hrel
    have S0 := Lib.hid hs
    have R0 := Lib.hid hr
    have C0 := Lib.hid ho
    have Q0 := Lib.hid hq
    have HH0 := Lib.hid hh
    have I0 := Lib.hid hi
    have K0 := Lib.hid hk
    have BB := Lib.hid hb
    have QS := Lib.hid (show qsize wr BQ = q.length from hq.qsize)
    have VF := Lib.hid hi.v
    have cq0 := hq.blk.cell (i := 0) rfl
    clear hs hr ho hq hh hi hk hb
    by_cases hlt : 0 < q.length
    · have hpos : ((q.length : Nat) : Int) > 0 := by omega
      have hpos' : (0 : Int) < (q.length : Int) := by omega
      go_wp2_with fail
      refine (qlen_is Aq q.length cq wr).mono ?_
      rintro e wx ⟨rfl, rfl⟩
      go_wp2_with fail
      obtain ⟨g, rfl⟩ := Q0.out.own0 hlt
      refine (hpop_is w4.heap.size BQ g cq q wr Q0.out HH0.out hlt (by omega)).mono ?_
      rintro e w6 ⟨x, m, rfl, hp, hx, hm, hqm, hf6⟩
      have hta := run_assert_num x
      have xq : x ∈ q := hp.mem_iff.2 List.mem_cons_self
      have XR := Lib.hid (Q0.out.own.ok x xq)
      have XM := Lib.hid (I0.out.ok x xq)
      have S6 := Lib.hid (S0.out.fr hf6 (S0.out.neT Q0.out.blk (by decide)) (Q0.out.own.neT S0.out (by decide)))
      have R6 := Lib.hid (R0.out.fr hf6 (R0.out.neT Q0.out.blk (by decide)) (Q0.out.own.neT R0.out (by decide)))
      have C6 := Lib.hid (C0.out.fr hf6 (fun k hk => ⟨fun e => by have := (C0.out.lt hk).1; have := LBQ.out; omega, fun e => by have := K0.out k e; have := (C0.out.lt hk).1; omega⟩))
      have B6 := Lib.hid (show Below w.heap.size w w6 from BB.out.trans (hf6.below (by have := hgw.out; have := HBQ.out; omega) (fun k hk => by have := (Q0.out.own.lt hk).1; have := hgw.out; omega) BB.out.size))
      have Z6 := Lib.hid (show w5.heap.size ≤ w6.heap.size from Nat.le_trans hsz hf6.size)
      have Q6 := Lib.hid hqm
      have M6 := Lib.hid hm
      have P6 := Lib.hid hp
      have X6 := Lib.hid hx
      have K6 := Lib.hid (show ∀ k, (Value.slice (some ⟨g, 0, none⟩) m.length cq).ownBlock = some k → k < w5.heap.size from fun k hk => K0.out k (by simpa [Value.ownBlock] using hk))
      have hml : q.length = m.length + 1 := by rw [hp.length_eq]; rfl
      have HML := Lib.hid hml
      clear hqm hm hp hx hf6 xq cq0 hml
      obtain ⟨r, hnr⟩ : ∃ r, near f' x = r := ⟨_, rfl⟩
      go_wp2_with (first
        | refine wpList_load_v t24 rfl _ rfl gs 0 f' rfl (range_floor S6.out.range) VF.out.len ?_)
      refine (near_is f' x r w6 VF.out XR.out XM.out.1 (Lib.hid hnr)).mono ?_
      rintro e w7 ⟨rfl, b7⟩
      have b7h := Lib.hid b7
      have S7 := Lib.hid (S6.out.below b7)
      have R7 := Lib.hid (R6.out.below b7)
      have C7 := Lib.hid (C6.out.below b7)
      have Q7 := Lib.hid (Q6.out.blw b7)
      have B7 := Lib.hid (step_ B6.out b7)
      have Z7 := Lib.hid (Nat.le_trans Z6.out b7.size)
      clear b7
      cases r with
      | true =>
        have hm := may_iff.1 XM.out.1
        obtain ⟨k, hk⟩ : ∃ k : Nat, (x / 4294967296).toNat = k := ⟨_, rfl⟩
        obtain ⟨b, hb⟩ : ∃ b, x % 4294967296 = b := ⟨_, rfl⟩
        have HA := Lib.hid (show x / 4294967296 % 256 = (k : Int) by omega)
        have HK := Lib.hid hk
        have HBB := Lib.hid hb
        have hk16 : k < 16 := by omega
        have ca := S7.out.cell (sc_floor (.slice A c'.length c) VF.out.len k hk16)
        have fr := S7.out.frozen k
        have S8 := Lib.hid (show Blk (w7.setCell ⟨gs, k, none⟩ (.int .u32 b)) gs 29 (sc (f'.set k b) (.slice A c'.length c)) by rw [← sc_set _ VF.out.len k hk16]; exact S7.out.set k _)
        have O8 := Lib.hid (Only.set gs k w7 (.int .u32 b))
        clear hm hk hb
        go_wp2_with fail
        refine (undot_is x k b w7 XR.out.1 (Lib.hid XR.out.2) HA HBB).mono ?_
        rintro e wx ⟨rfl, rfl⟩
        go_wp2_with fail
        have Q8 := Lib.hid (Q7.out.one O8.out (fun e => by have := hgs4.out; have := HBQ.out; omega) (Q7.out.own.neT S7.out (by decide)))
        go_roundw
        case rel =>
          refine ⟨f'.set k b, c', m, A, some ⟨g, 0, none⟩, c, cq, S8.out, R7.out.only O8.out hgw.out.2.2.2, C7.out.only O8.out (fun k hk e => C7.out.neT S7.out (by decide) (by rw [hk, e])), Q8.out, M6.out, ?_, by have := HML.out; omega, K6.out, B7.out.trans (O8.out.below hgw.out.1 B7.out.size), Nat.le_trans Z7.out O8.out.size⟩
          rw [← HK.out, ← HBB.out]
          exact I0.out.join P6.out X6.out hnr
        case measure =>
          have e1 := Q8.out.qsize
          have e2 := QS.out
          have := HML.out
          rw [e1, e2]; omega
      | false =>
        have c16 := S7.out.cell (sc_cloud (.slice A c'.length c) VF.out.len)
        go_wp2_with (first
          | (refine wpList_num1 u24n rfl _ rfl x rfl XR.out ?_; intro gn w8 egn N8 b8; have hb8 := Lib.hid (b8.out); clear c16)
          | (refine wpList_app_n u24n rfl _ _ rfl w5.heap.size _ _ c' [x] rfl rfl (C7.out.below hb8.out) N8.out (by simp; omega) (Nat.le_trans Z7.out hb8.out.size) ?_; intro E kk cap2 w9 hk9 C9 b9 _; have S9 := Lib.hid ((S7.out.below hb8.out).upto b9.out (by have := hgs4.out; omega)); have c16' := S9.out.cell (sc_cloud (.slice A c'.length c) VF.out.len); have f16 := S9.out.frozen 16))
        have ek := hk9.out
        subst ek
        have O10 := Lib.hid (Only.set gs 16 w9 (.slice E (c' ++ [x]).length cap2))
        have Q9 := Lib.hid ((Q7.out.blw hb8.out).upto b9.out LBQ.out K6.out)
        have R9 := Lib.hid ((R7.out.below hb8.out).upto b9.out (by have := hgr4.out; omega))
        have B9 := Lib.hid ((step_ B7.out hb8.out).trans (b9.out.mono (by have := hgw.out; omega)))
        have Z9 := Lib.hid (Nat.le_trans Z7.out (Nat.le_trans hb8.out.size b9.out.size))
        have Q10 := Lib.hid (Q9.out.one O10.out (fun e => by have := hgs4.out; have := HBQ.out; omega) (Q9.out.own.neT S9.out (by decide)))
        have S10 := Lib.hid (show Blk (w9.setCell ⟨gs, 16, none⟩ (.slice E (c' ++ [x]).length cap2)) gs 29 (sc f' (.slice E (c' ++ [x]).length cap2)) by rw [← sc_put (.slice A c'.length c) _ VF.out.len]; exact S9.out.set 16 _)
        go_roundw
        case rel =>
          exact ⟨f', c' ++ [x], m, E, some ⟨g, 0, none⟩, cap2, cq, S10.out, R9.out.only O10.out hgw.out.2.2.2, C9.out.only O10.out (fun k hk e => C9.out.neT S9.out (by decide) (by rw [hk, e])), Q10.out, M6.out, I0.out.far P6.out X6.out hnr, by have := HML.out; rw [List.length_append, List.length_singleton]; omega, K6.out, B9.out.trans (O10.out.below hgw.out.1 B9.out.size), Nat.le_trans Z9.out O10.out.size⟩
        case measure =>
          have e1 := Q10.out.qsize
          have e2 := QS.out
          have := HML.out
          rw [e1, e2]; omega
    · have h0 : q.length = 0 := by omega
      have e0 : q = [] := List.length_eq_zero_iff.1 h0
      subst e0
      go_wp2_with fail
      refine (qlen_is Aq _ cq wr).mono ?_
      rintro e wx ⟨rfl, rfl⟩
      go_wp2_with (first
        | refine wpList_load_s t33 rfl _ rfl gs f' _ rfl S0.out VF.out.len ?_
        | (refine wpList_store_s t33 rfl _ _ rfl gr vz f' _ A c'.length c rfl rfl R0.out vz_len VF.out.len ?_; intro w6 R6 o6))
      refine bodyPost_ret (results_s t33 rfl _ _ gr f' _ rfl R6.out VF.out.len) rfl ?_
      have en := I0.out.is_nrm HF.out
      rw [hL, show nrm f L = (f', c') from Prod.ext en.1.symm en.2.symm]
      refine ⟨A, c, rfl, ?_, BB.out.trans (o6.out.below hgw.out.2.1 BB.out.size)⟩
      exact (C0.out.only o6.out (fun k hk e => C0.out.neT R0.out (by decide) (by rw [hk, e]))).down (by have := hgw.out; omega)
end Go.Proofs.YtpgafijeecmgmaaGreat
namespace Go.Proofs.YtpgafijeecmgmaaGreat
open Go.RowKit

theorem fill24 (u v : Value) : ((Array.map (fun x => [Value.slice none 0 0][x % 1]?.getD default) (Array.range 2)).setIfInBounds 0 u).setIfInBounds 1 v = #[u, v] := by kernel_rfl
theorem run_two (A1 A2 : Option Addr) (n1 n2 c1 c2 : Nat) (w : World) : (Instr.buildSlice 74 2 #[(0, .slice A1 n1 c1), (1, .slice A2 n2 c2)]).run Tryz.prog w = .ok (.slice (some ⟨w.heap.size, 0, none⟩) 2 2) (w.alloc (.cells #[.slice A1 n1 c1, .slice A2 n2 c2] 27)) := by
  have hz := Tryz.zeroValue27
  have hsz := Tryz.sizeOf27
  simp only [Instr.buildSlice, Sem.run_bind, run_underlying Tryz.underlying74, Result.andThen_ok, hsz]
  rw [if_neg (by decide), if_neg (by decide)]
  simp [hz, Instr.fill, Value.cells]
  rw [fill24]
  rfl
theorem exec_two {o : Oper} {a : Act} {w : World} (x y : Operand) (ho : o.op = .buildSlice 74 2 #[(0, x), (1, y)]) (A1 A2 : Option Addr) (n1 n2 c1 c2 : Nat) (hx : a.eval x = .slice A1 n1 c1) (hy : a.eval y = .slice A2 n2 c2) :
    (execOp a.eval o).run Tryz.prog w = .ok (.value (.slice (some ⟨w.heap.size, 0, none⟩) 2 2)) (w.alloc (.cells #[.slice A1 n1 c1, .slice A2 n2 c2] 27)) := by
  unfold execOp
  simp only [ho, List.map_toArray, List.map_cons, List.map_nil, hx, hy, Sem.run_bind, run_two, Result.andThen_ok, Sem.run_pure]
theorem wpList_two {ops : Array Oper} {rest : List Oper} {op : Oper} {a : Act} {w : World} {Q : Exit → Act → World → Prop} (hgd : op.guard = none) (x y : Operand) (ho : op.op = .buildSlice 74 2 #[(0, x), (1, y)]) (A1 A2 : Option Addr) (n1 n2 c1 c2 : Nat) (hx : a.eval x = .slice A1 n1 c1) (hy : a.eval y = .slice A2 n2 c2)
    (h : ∀ g w', Hid (g = w.heap.size) → Hid (Blk w' g 27 [.slice A1 n1 c1, .slice A2 n2 c2]) → Hid (Below w.heap.size w w') → wpList Tryz.prog ops Q rest (a.put op.dst (.slice (some ⟨g, 0, none⟩) 2 2)) w') : wpList Tryz.prog ops Q (op :: rest) a w := by
  refine wpList_plain hgd fun K hK => ?_
  have H := h w.heap.size _ (Lib.hid rfl) (Lib.hid (blk_alloc w 27 [.slice A1 n1 c1, .slice A2 n2 c2])) (Lib.hid (new_below w _))
  unfold Oper.wp
  rw [exec_two x y ho A1 A2 n1 n2 c1 c2 hx hy]
  exact hK _ _ H
set_option maxRecDepth 100000 in
theorem add_is (f c l : List Int) (A A2 : Option Addr) (cp cp2 : Nat) (w : World) (hf : VOk f) (h1 : NumsAt w (.slice A c.length cp) c) (h2 : NumsAt w (.slice A2 l.length cp2) l) (hn1 : c.length ≤ 2000) (hn2 : l.length ≤ 2000) (p : List Int × List Int) (hp : Hid (nrm f (c ++ l) = p)) :
    Calls Tryz.prog 12 #[.agg (sc f (.slice A c.length cp)).toArray, .slice A2 l.length cp2] w (GivesS w p) := by
  have HF := Lib.hid hf
  have H1 := Lib.hid h1
  have H2 := Lib.hid h2
  have NV := Lib.hid (hp.out ▸ (nrm_of hf (c ++ l)).v)
  clear hf h1 h2
  go_enter Tryz.func12, Tryz.ntmps12
  go_wp2_with (first
    | (refine wpList_box_cs rfl _ rfl (sc f (.slice A c.length cp)) rfl ?_; intro g0 w1 eg0 G1 b1)
    | (refine wpList_alloc_s t33 rfl rfl ?_; intro gr w2 egr R2 b2; have G2 := Lib.hid (G1.out.below b2.out); have c16 := G2.out.cell (sc_cloud (.slice A c.length cp) HF.out.len))
    | refine wpList_load_v t24 rfl _ rfl g0 0 f rfl (range_floor G2.out.range) HF.out.len ?_
    | (refine wpList_two rfl _ _ rfl A A2 c.length l.length cp cp2 rfl rfl ?_; intro g3 w3 eg3 T3 b3; clear c16))
  have c2 := Lib.hid (b1.out.trans (b2.out.mono b1.out.size))
  have c3 := Lib.hid (c2.out.trans (b3.out.mono c2.out.size))
  refine (settle_is f g3 _ _ c l w3 HF.out T3.out (H1.out.below c3.out) (H2.out.below c3.out) hn1 hn2).mono ?_
  rw [hp.out]
  rintro e w4 ⟨A', c', rfl, o4, b4⟩
  have R4 := Lib.hid ((R2.out.below b3.out).below b4)
  have O4 := Lib.hid o4
  have B4 := Lib.hid (step_ c3.out b4)
  have hgr := Lib.hid (show w.heap.size ≤ gr by have := egr.out; have := b1.out.size; omega)
  have hw3 := c3.out.size
  clear o4 b4
  go_wp2_with (refine wpList_store_s t33 rfl _ _ rfl gr vz p.1 _ A' p.2.length c' rfl rfl R4.out vz_len NV.out.len ?_; intro w5 R5 o5)
  refine bodyPost_ret (results_s t33 rfl _ _ gr p.1 _ rfl R5.out NV.out.len) rfl ?_
  exact ⟨A', c', rfl, (O4.out.only o5.out (fun k hk e => O4.out.neT R4.out (by decide) (by rw [hk, e]))).down hw3, B4.out.trans (o5.out.below hgr.out B4.out.size)⟩
set_option maxRecDepth 100000 in
theorem of_is (l : List Int) (A2 : Option Addr) (cp2 : Nat) (w : World) (h2 : NumsAt w (.slice A2 l.length cp2) l) (hn2 : l.length ≤ 2000) (p : List Int × List Int) (hp : Hid (nrm vz l = p)) :
    Calls Tryz.prog 11 #[.slice A2 l.length cp2] w (GivesS w p) := by
  have H2 := Lib.hid h2
  have NV := Lib.hid (hp.out ▸ (nrm_of vz_ok l).v)
  clear h2
  go_enter Tryz.func11, Tryz.ntmps11
  go_wp2_with (first
    | (refine wpList_alloc_s t33 rfl rfl ?_; intro gr w2 egr R2 b2)
    | (refine wpList_build rfl 29 _ rfl [] rfl _ built_s33z ?_))
  refine (add_is vz [] l none A2 0 cp2 w2 vz_ok (nums_at_nil _) (H2.out.below b2.out) (by simp) hn2 p hp).mono ?_
  rintro e w4 ⟨A', c', rfl, o4, b4⟩
  have R4 := Lib.hid (R2.out.below b4)
  have O4 := Lib.hid o4
  have B4 := Lib.hid (step_ b2.out b4)
  have hgr := Lib.hid (show w.heap.size ≤ gr by have := egr.out; omega)
  have hw3 := b2.out.size
  clear o4 b4
  go_wp2_with (refine wpList_store_s t33 rfl _ _ rfl gr vz p.1 _ A' p.2.length c' rfl rfl R4.out vz_len NV.out.len ?_; intro w5 R5 o5)
  refine bodyPost_ret (results_s t33 rfl _ _ gr p.1 _ rfl R5.out NV.out.len) rfl ?_
  exact ⟨A', c', rfl, (O4.out.only o5.out (fun k hk e => O4.out.neT R4.out (by decide) (by rw [hk, e]))).down hw3, B4.out.trans (o5.out.below hgr.out B4.out.size)⟩
end Go.Proofs.YtpgafijeecmgmaaGreat
