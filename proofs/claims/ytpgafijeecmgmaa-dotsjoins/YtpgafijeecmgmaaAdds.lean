/- The contracts of Add, Of, Has and Right of package dots, and of slices.Index and Contains at numbers. -/
import Derived.Test.YtpgafijeecmgmaaSettle
namespace Go.Proofs.Ytpgafijeecmgmaa
open Go.RowKit

theorem fill24 (u v : Value) : ((Array.map (fun x => [Value.slice none 0 0][x % 1]?.getD default) (Array.range 2)).setIfInBounds 0 u).setIfInBounds 1 v = #[u, v] := by kernel_rfl
theorem run_two (A1 A2 : Option Addr) (n1 n2 c1 c2 : Nat) (w : World) : (Instr.buildSlice 63 2 #[(0, .slice A1 n1 c1), (1, .slice A2 n2 c2)]).run Try.prog w = .ok (.slice (some ⟨w.heap.size, 0, none⟩) 2 2) (w.alloc (.cells #[.slice A1 n1 c1, .slice A2 n2 c2] 24)) := by
  have hz := Try.zeroValue24
  have hsz := Try.sizeOf24
  simp only [Instr.buildSlice, Sem.run_bind, run_underlying Try.underlying63, Result.andThen_ok, hsz]
  rw [if_neg (by decide), if_neg (by decide)]
  simp [hz, Instr.fill, Value.cells]
  rw [fill24]
  rfl
theorem exec_two {o : Oper} {a : Act} {w : World} (x y : Operand) (ho : o.op = .buildSlice 63 2 #[(0, x), (1, y)]) (A1 A2 : Option Addr) (n1 n2 c1 c2 : Nat) (hx : a.eval x = .slice A1 n1 c1) (hy : a.eval y = .slice A2 n2 c2) :
    (execOp a.eval o).run Try.prog w = .ok (.value (.slice (some ⟨w.heap.size, 0, none⟩) 2 2)) (w.alloc (.cells #[.slice A1 n1 c1, .slice A2 n2 c2] 24)) := by
  unfold execOp
  simp only [ho, List.map_toArray, List.map_cons, List.map_nil, hx, hy, Sem.run_bind, run_two, Result.andThen_ok, Sem.run_pure]
theorem wpList_two {ops : Array Oper} {rest : List Oper} {op : Oper} {a : Act} {w : World} {Q : Exit → Act → World → Prop} (hgd : op.guard = none) (x y : Operand) (ho : op.op = .buildSlice 63 2 #[(0, x), (1, y)]) (A1 A2 : Option Addr) (n1 n2 c1 c2 : Nat) (hx : a.eval x = .slice A1 n1 c1) (hy : a.eval y = .slice A2 n2 c2)
    (h : ∀ g w', Hid (g = w.heap.size) → Hid (Blk w' g 24 [.slice A1 n1 c1, .slice A2 n2 c2]) → Hid (Below w.heap.size w w') → wpList Try.prog ops Q rest (a.put op.dst (.slice (some ⟨g, 0, none⟩) 2 2)) w') : wpList Try.prog ops Q (op :: rest) a w := by
  refine wpList_plain hgd fun K hK => ?_
  have H := h w.heap.size _ (Lib.hid rfl) (Lib.hid (blk_alloc w 24 [.slice A1 n1 c1, .slice A2 n2 c2])) (Lib.hid (new_below w _))
  unfold Oper.wp
  rw [exec_two x y ho A1 A2 n1 n2 c1 c2 hx hy]
  exact hK _ _ H
set_option maxRecDepth 100000 in
theorem add_is (f c l : List Int) (A A2 : Option Addr) (cp cp2 : Nat) (w : World) (hf : VOk f) (h1 : NumsAt w (.slice A c.length cp) c) (h2 : NumsAt w (.slice A2 l.length cp2) l) (hn1 : c.length ≤ 2000) (hn2 : l.length ≤ 2000) (p : List Int × List Int) (hp : Hid (nrm f (c ++ l) = p)) :
    Calls Try.prog 11 #[.agg (sc f (.slice A c.length cp)).toArray, .slice A2 l.length cp2] w (GivesS w p) := by
  have HF := Lib.hid hf
  have H1 := Lib.hid h1
  have H2 := Lib.hid h2
  have NV := Lib.hid (hp.out ▸ (nrm_of hf (c ++ l)).v)
  clear hf h1 h2
  go_enter Try.func11, Try.ntmps11
  go_wp2_with (first
    | (refine wpList_box_cs rfl _ rfl (sc f (.slice A c.length cp)) rfl ?_; intro g0 w1 eg0 G1 b1)
    | (refine wpList_alloc_s t33 rfl rfl ?_; intro gr w2 egr R2 b2; have G2 := Lib.hid (G1.out.below b2.out); have c16 := G2.out.cell (sc_cloud (.slice A c.length cp) HF.out.len))
    | refine wpList_load_v t24 rfl _ rfl g0 0 f rfl (range_floor G2.out.range) HF.out.len ?_
    | (refine wpList_two rfl _ _ rfl A A2 c.length l.length cp cp2 rfl rfl ?_; intro g3 w3 eg3 T3 b3; clear c16))
  have c2 := Lib.hid (b1.out.trans (b2.out.mono b1.out.size))
  have c3 := Lib.hid (c2.out.trans (b3.out.mono c2.out.size))
  refine (settle_is f g3 _ _ c l w3 HF.out T3.out (H1.out.below c3.out) (H2.out.below c3.out) hn1 hn2).mono ?_
  rw [hp.out]
  rintro e w4 ⟨A', c', rfl, o4, b4⟩
  have R4 := Lib.hid ((R2.out.below b3.out).below b4)
  have O4 := Lib.hid o4
  have B4 := Lib.hid (step_ c3.out b4)
  have hgr := Lib.hid (show w.heap.size ≤ gr by have := egr.out; have := b1.out.size; omega)
  have hw3 := c3.out.size
  clear o4 b4
  go_wp2_with (refine wpList_store_s t33 rfl _ _ rfl gr vz p.1 _ A' p.2.length c' rfl rfl R4.out vz_len NV.out.len ?_; intro w5 R5 o5)
  refine bodyPost_ret (results_s t33 rfl _ _ gr p.1 _ rfl R5.out NV.out.len) rfl ?_
  exact ⟨A', c', rfl, (O4.out.only o5.out (fun k hk e => O4.out.neT R4.out (by decide) (by rw [hk, e]))).down hw3, B4.out.trans (o5.out.below hgr.out B4.out.size)⟩
set_option maxRecDepth 100000 in
theorem of_is (l : List Int) (A2 : Option Addr) (cp2 : Nat) (w : World) (h2 : NumsAt w (.slice A2 l.length cp2) l) (hn2 : l.length ≤ 2000) (p : List Int × List Int) (hp : Hid (nrm vz l = p)) :
    Calls Try.prog 9 #[.slice A2 l.length cp2] w (GivesS w p) := by
  have H2 := Lib.hid h2
  have NV := Lib.hid (hp.out ▸ (nrm_of vz_ok l).v)
  clear h2
  go_enter Try.func9, Try.ntmps9
  go_wp2_with (first
    | (refine wpList_alloc_s t33 rfl rfl ?_; intro gr w2 egr R2 b2)
    | (refine wpList_build rfl 33 _ rfl [] rfl _ built_s33z ?_))
  refine (add_is vz [] l none A2 0 cp2 w2 vz_ok (nums_at_nil _) (H2.out.below b2.out) (by simp) hn2 p hp).mono ?_
  rintro e w4 ⟨A', c', rfl, o4, b4⟩
  have R4 := Lib.hid (R2.out.below b4)
  have O4 := Lib.hid o4
  have B4 := Lib.hid (step_ b2.out b4)
  have hgr := Lib.hid (show w.heap.size ≤ gr by have := egr.out; omega)
  have hw3 := b2.out.size
  clear o4 b4
  go_wp2_with (refine wpList_store_s t33 rfl _ _ rfl gr vz p.1 _ A' p.2.length c' rfl rfl R4.out vz_len NV.out.len ?_; intro w5 R5 o5)
  refine bodyPost_ret (results_s t33 rfl _ _ gr p.1 _ rfl R5.out NV.out.len) rfl ?_
  exact ⟨A', c', rfl, (O4.out.only o5.out (fun k hk e => O4.out.neT R4.out (by decide) (by rw [hk, e]))).down hw3, B4.out.trans (o5.out.below hgr.out B4.out.size)⟩
set_option maxRecDepth 100000 in
theorem index_is (l : List Int) (A : Option Addr) (cp : Nat) (x : Int) (w : World) (h : NumsAt w (.slice A l.length cp) l) (hn : l.length ≤ 5000) :
    Calls Try.prog 41 #[.slice A l.length cp, .int .u64 x] w fun e w' => (∃ z : Int, e = .returned (.int .i64 z) ∧ (0 ≤ z ↔ l.contains x = true)) ∧ Below w.heap.size w w' := by
  have H := Lib.hid h
  clear h
  go_enter Try.func41, Try.ntmps41
  go_wp2_with fail
  go_loopw [8, 5] (fun i _ wr => ∃ j : Nat, j ≤ l.length ∧ i = .int .i64 j ∧ (∀ m, m < j → l.getD m 0 ≠ x) ∧ Below w.heap.size w wr) (fun i _ _ => l.length - (intOf i).toNat)
  case atStart => exact ⟨0, Nat.zero_le _, rfl, fun m hm => absurd hm (by omega), Below.refl _ _⟩
  case round =>
    obtain ⟨j, hj, rfl, hno, hb⟩ := hrel
    have BB := Lib.hid hb
    have NO := Lib.hid hno
    clear hb hno
    by_cases hlt : j < l.length
    · obtain ⟨G, p, hE, hc, hG⟩ := (H.out.below BB.out).elem j hlt
      have E := Lib.hid hE
      obtain ⟨z, hz⟩ : ∃ z, l.getD j 0 = z := ⟨_, rfl⟩
      have HZ := Lib.hid hz
      rw [hz] at hc
      clear hE hz
      by_cases he : x = z
      · have he' : (x == z) = true := by simp [he]
        go_wp2_with (first
          | refine wpList_indexN u24n rfl _ _ rfl _ _ _ G p j _ rfl rfl rfl E.out ?_)
        go_ret
        refine ⟨⟨j, rfl, ?_⟩, BB.out⟩
        rw [List.contains_iff_mem, he, ← HZ.out]
        exact ⟨fun _ => by rw [getD_at hlt]; exact List.getElem_mem hlt, fun _ => by omega⟩
      · have he' : (x == z) = false := by simp [he]
        go_wp2_with (first
          | refine wpList_indexN u24n rfl _ _ rfl _ _ _ G p j _ rfl rfl rfl E.out ?_)
        go_roundw
        case rel =>
          refine ⟨j + 1, by omega, by go_num, fun m hm => ?_, BB.out⟩
          by_cases hm2 : m = j
          · subst hm2; rw [HZ.out]; exact fun e => he e.symm
          · exact NO.out m (by omega)
        case measure => simp [intOf]; omega
    · obtain rfl : j = l.length := by omega
      go_wp2_with fail
      go_ret
      refine ⟨⟨-1, rfl, ?_⟩, BB.out⟩
      rw [List.contains_iff_mem]
      constructor
      · intro h; omega
      · intro h
        obtain ⟨i, hi, e⟩ := List.mem_iff_getElem.1 h
        exact absurd (by rw [getD_at hi]; exact e) (NO.out i hi)
theorem contains_is (l : List Int) (A : Option Addr) (cp : Nat) (x : Int) (r : Bool) (w : World) (h : NumsAt w (.slice A l.length cp) l) (hn : l.length ≤ 5000) (hr : Hid (l.contains x = r)) :
    Calls Try.prog 32 #[.slice A l.length cp, .int .u64 x] w fun e w' => e = .returned (.bool r) ∧ Below w.heap.size w w' := by
  have HI := Lib.hid (index_is l A cp x w h hn)
  clear h
  go_enter Try.func32, Try.ntmps32
  go_wp2_with fail
  refine HI.out.mono ?_
  rintro e w1 ⟨⟨z, rfl, hz⟩, b1⟩
  have B1 := Lib.hid b1
  have HZ := Lib.hid hz
  clear b1 hz
  go_wp2_with fail
  go_ret
  refine ⟨ret_bool ?_, B1.out⟩
  rw [← hr.out, Bool.eq_iff_iff, ← HZ.out, decide_eq_true_eq]
end Go.Proofs.Ytpgafijeecmgmaa
