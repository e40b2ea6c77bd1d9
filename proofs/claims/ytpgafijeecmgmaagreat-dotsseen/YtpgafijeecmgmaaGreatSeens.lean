/- The contract of Seen of package dots. Written by wip/tools/seen_r13.py. The contract of the reference's Seen. Written by wip/tools/rseen_r13.py. -/
import Derived.Test.YtpgafijeecmgmaaGreatMathD
import Derived.Test.YtpgafijeecmgmaaGreatSettle
import Derived.Test.YtpgafijeecmgmaaGreatRefD
import Derived.Test.YtpgafijeecmgmaaGreatOfs
namespace Go.Proofs.YtpgafijeecmgmaaGreat
open Go.RowKit

/-- A number behind a row of one's own, laid: what the two operations do, and what stays. -/
theorem app_two (w : World) (b : Nat) (A : Option Addr) (n cp : Nat) (o : List Int) (z : Int) (h : OwnN w b (.slice A n cp) o) (hz : 0 ≤ z ∧ z < 18446744073709551616) (hn : o.length ≤ 20000) (hb : b ≤ w.heap.size) :
    ∃ E k c w', (Builtin.append_ #[27, 27] 27 #[.slice A n cp, .slice (some ⟨w.heap.size, 0, none⟩) 1 1]).run Tryz.prog (w.alloc (.cells #[.int .u64 z] 40)) = .ok (.slice E k c) w' ∧ k = (o ++ [z]).length ∧ OwnN w' b (.slice E k c) (o ++ [z]) ∧ Below b (w.alloc (.cells #[.int .u64 z] 40)) w' ∧
      ∀ g, g < (w.alloc (.cells #[.int .u64 z] 40)).heap.size → (Value.slice A n cp).ownBlock ≠ some g → w'.heap[g]? = (w.alloc (.cells #[.int .u64 z] 40)).heap[g]? := by
  have n1 := (own_num1 w z hz w.heap.size (Nat.le_refl _)).at_
  have o1 := h.below (new_below w (.cells #[.int .u64 z] 40))
  obtain ⟨v', w3, he, h1, h2, h3, h4⟩ := run_app_nums (w.alloc (.cells #[.int .u64 z] 40)) u24n 27 b _ _ o [z] o1 n1 (by simp; omega) (Nat.le_trans hb (by simp))
  obtain ⟨E, c, e⟩ := h1.shape
  subst e
  exact ⟨E, _, c, w3, he, rfl, h1, h3, fun g hg hn => h2.block g hg (fun e => hn e.symm)⟩
/-- What holds between two rounds: the dots so far lie in a row of the call's own. -/
def ID (gl : Nat) (w2 : World) (l : List Int) (V : World) : Prop := ∃ A n c, Blk V gl 27 [.slice A n c] ∧ OwnN V (w2.heap.size + 2) (.slice A n c) l ∧ Only gl w2 V
theorem ID.put {gl B : Nat} {w2 V : World} {l : List Int} {o : Obj} (h : ID gl w2 l V) (hB : B = w2.heap.size + 1) (hg : gl < w2.heap.size) : ID gl w2 l (V.putObj B o) := by
  obtain ⟨A, n, c, h1, h2, h3⟩ := h
  refine ⟨A, n, c, blk_put h1 (by omega), h2.same (fun k hk => ?_), only_put h3 (by omega)⟩
  have := (h2.lt hk).1
  exact World.putObj_heap_other (by omega)
theorem seen_keep {w w' : World} {A A' : Option Addr} {n cap g n' c' : Nat} {l : List Am} (h : RowV w A n cap l) (ho : Only g w w') (hb : Blk w g 27 [.slice A' n' c']) : RowV w' A n cap l :=
  ⟨h.ok, h.len, h.le, h.most, fun h0 => by
    obtain ⟨G, off, ha, hG, hr⟩ := h.at_ h0
    have hne : G ≠ g := by
      rintro rfl
      have h1 := hr 0 (by rw [h.len]; exact h0) 0 _ (by rw [Am.cells, List.getElem?_append_left (by rw [kcells_len (h.ok _ (List.getElem_mem _)).k.ml]; omega)]; exact kc0 _)
      rw [cell_of_row _ G _ _ 27 (0, 0) hb] at h1
      obtain ⟨hi, e⟩ := Array.getElem?_eq_some_iff.1 h1
      simp at e
    refine ⟨G, off, ha, Nat.lt_of_lt_of_le hG ho.size, fun i hi j v hv => ?_⟩
    have h1 := hr i hi j v hv
    unfold World.cell? at *
    rw [show w'.heap[(⟨G, off + i * 21 + j, none⟩ : Addr).block]? = w.heap[(⟨G, off + i * 21 + j, none⟩ : Addr).block]? from ho.block G hG hne]
    exact h1⟩
end Go.Proofs.YtpgafijeecmgmaaGreat
namespace Go.Proofs.YtpgafijeecmgmaaGreat
open Go.RowKit Go.Shelf
attribute [local go_sem] Oper.semAt_some
set_option maxRecDepth 100000 in
set_option maxHeartbeats 8000000 in
theorem seen_is (A : Option Addr) (n cap : Nat) (a : List Am) (w : World) (h : RowV w A n cap a) (hn : n ≤ 600) (p : List Int × List Int) (hp : Hid (nrm vz (tg (norm a)) = p)) : Calls Tryz.prog 5 #[.slice A n cap] w (GivesS w p) := by
  have hz := t33.zero
  have Q1 := Lib.hid ((blk_alloc w 29 (sc vz (.slice none 0 0))).alloc (.cells #[.slice none 0 0] 27))
  have Q2 := Lib.hid (blk2 w (.cells (sc vz (.slice none 0 0)).toArray 29) 27 [.slice none 0 0])
  have B0 := Lib.hid (step_ (new_below w (.cells (sc vz (.slice none 0 0)).toArray 29)) (new_below _ (.cells #[.slice none 0 0] 27)))
  have H := Lib.hid h
  clear h
  refine (callsIn_wide (n := 10)).1 ?_
  refine callsIn_of_wp_marks Tryz.func5 rfl trivial ?_ rfl
  simp only [Tryz.ntmps5, List.size_toArray, List.length_cons, List.length_nil, Nat.reduceAdd, Nat.reduceSub, Array.replicate_succ, Array.replicate_zero, List.push_toArray, List.append_toArray, List.nil_append, List.cons_append]
  gi_wp2_with fail
  refine ⟨trivial, (callsIn_wide.2 (each_is A n cap a _ (H.out.below B0.out) hn)).mono ?_⟩
  rintro e w2 ⟨⟨Bs, D, m1, c1, rfl, lbs, k1, r1⟩, b1⟩
  have K1 := Lib.hid k1
  have R1 := Lib.hid r1
  have W1 := Lib.hid (Q1.out.below b1)
  have W2 := Lib.hid (Q2.out.below b1)
  have B1 := Lib.hid (step_ B0.out b1)
  have LBS := Lib.hid (show w.heap.size + 2 ≤ Bs by simpa using lbs)
  have hm1 : m1 ≤ 1000 := by have := norm_len a; rw [r1.len, H.out.len] at this; omega
  have ST := Lib.hid (norm_st H.out.ok)
  have hal := Lib.hid (show (norm a).length ≤ 600 by have := norm_len a; rw [H.out.len] at this; omega)
  clear k1 r1 b1 lbs Q1 Q2 B0 H hz
  gi_wp2_with fail
  rename_i K0 hK0
  have LT := Lib.hid (show w.heap.size + 1 < w2.heap.size from W2.out.lt)
  obtain ⟨s, hs⟩ : ∃ s, norm a = s := ⟨_, rfl⟩
  rw [hs] at R1 ST hp hal
  clear hs
  refine range_row (gf := 25) (lb := #[.pointer (some ⟨Bs, 0, none⟩)]) rfl (fun _ _ => rfl) (each_seq Bs D m1 c1 s hm1) rfl
    (fun pre V => ID (w.heap.size + 1) w2 (tg pre) V)
    (fun V => False)
    (fun pre V V' h hb => by obtain ⟨A2, n2, c2, h1, h2, h3⟩ := h; exact ⟨A2, n2, c2, h1.below hb, h2.below hb, h3.trans (Only.of_below hb)⟩)
    (fun pre V o h => h.put rfl LT.out)
    (fun V o h => h.elim)
    (fun pre V h => by obtain ⟨A2, n2, c2, h1, h2, h3⟩ := h; exact ⟨K1.out.only h3 (by have := LBS.out; omega), seen_keep R1.out h3 W2.out⟩)
    ⟨none, 0, 0, W2.out, ownN_nil _ _, Only.refl _ _⟩
    (fun pre x a' V => ∃ g4, a' = { tmps := #[.slice A n cap, undef, .pointer (some ⟨w.heap.size, 0, none⟩), .pointer (some ⟨w.heap.size + 1, 0, none⟩), .pointer (some ⟨g4, 0, none⟩), .slice A n cap, .func (.func 25) #[] #[.pointer (some ⟨Bs, 0, none⟩)], .agg x.k.cells.toArray, .agg x.v.cells.toArray, undef, undef, undef, undef, undef, undef, undef, undef, undef, undef], defers := [] } ∧ w2.heap.size + 1 < g4 ∧ Blk V g4 50 x.k.cells ∧ ID (w.heap.size + 1) w2 (tg pre) V)
    (fun pre x a' V o h => by
      obtain ⟨g4, e, l4, k4, h1⟩ := h
      exact ⟨g4, e, l4, blk_put k4 (by omega), h1.put rfl LT.out⟩)
    ?assign ?body ?done ?stop
  case assign =>
    intro l pre x rest W K hsx hi hlt hK
    have XO := Lib.hid (R1.out.ok x (by rw [hsx]; simp))
    have HI := Lib.hid hi
    have Z1 := Lib.hid (blk_alloc W 50 kzero.cells)
    have hk0 := zero27
    clear hi hsx
    simp only [encP, List.zip_toArray, List.zip_cons_cons, List.zip_nil_right, List.foldl_toArray', List.foldl_cons, List.foldl_nil, List.size_toArray, List.length_cons, List.length_nil, List.setIfInBounds_toArray, List.set_cons_zero, List.set_cons_succ]
    gi_wp2_with (first
      | (refine in_plain (wide_in l) rfl (by intro c h; cases h) ?_; refine wpList_store_ky rfl _ _ rfl W.heap.size kzero x.k rfl rfl Z1.out kzero_ok.ml XO.out.k.ml ?_; intro V1 N1 O1; refine in_done ?_))
    have QQ := box_below O1.out
    obtain ⟨A2, n2, c2, h1, h2, h3⟩ := HI.out
    exact hK _ _ (KeepL.below QQ hlt) ⟨_, rfl, hlt, N1.out, A2, n2, c2, h1.below QQ, h2.below QQ, h3.trans (Only.of_below QQ)⟩
  case body =>
    intro l pre x rest a' W hsx hax hlt
    obtain ⟨g4, rfl, l4, k4, A2, n2, c2, h1, h2, h3⟩ := hax
    have XO := Lib.hid (R1.out.ok x (by rw [hsx]; simp))
    have TL := Lib.hid (show (tg pre).length ≤ 20000 by
      have h1 := tg_len pre
      have h2 : pre.length ≤ s.length := by rw [hsx, List.length_append]; omega
      have := hal.out
      omega)
    have G4 := Lib.hid k4
    have H1x := Lib.hid h1
    have O1x := Lib.hid h2
    have I1x := Lib.hid h3
    have HLT := Lib.hid hlt
    have c0 := k4.cell (kc0 x.k)
    clear k4 h1 h2 h3 hsx hlt
    by_cases hs1 : x.k.s = 1
    · have hbs : (x.k.s == 1) = true := by rw [hs1]; rfl
      have SN := Lib.hid (tg_yes (s := pre) hbs)
      have KR := Lib.hid (show 0 ≤ x.k.w2 ∧ x.k.w2 < 18446744073709551616 by have := XO.out.k.w2r; omega)
      clear hs1
      gi_wp2_with fail
      have S0 := Lib.hid (show Blk W.drew g4 50 x.k.cells from G4.out.drew)
      have H0 := Lib.hid (show Blk W.drew (w.heap.size + 1) 27 [.slice A2 n2 c2] from H1x.out.drew)
      have O0 := Lib.hid O1x.out.drew
      have HZ := Lib.hid (show w2.heap.size + 2 ≤ W.heap.size by have := HLT.out; omega)
      have B0 := Lib.hid (show Below (w2.heap.size + 2) W W.drew from below_drew (Below.refl _ _))
      have I0 := Lib.hid (show Only (w.heap.size + 1) w2 W.drew from I1x.out.drew)
      have HGL := Lib.hid (show w.heap.size + 1 < w2.heap.size + 2 by have := LT.out; omega)
      have HGW := Lib.hid LT.out
      clear c0
      refine region_in (wide_in l) (S := fun V => Blk V g4 50 x.k.cells) (by kernel_rfl) (by kernel_rfl) S0.out (fun _ => ?_)
      refine wpAnyH_take (i := 1) (oi := { dst := some 13, op := Go.Op.load 50 (Go.Operand.tmp 4), type := 50, pos := _, after := #[], guard := none }) (v := .agg (x.k.cells).toArray) rfl (by kernel_rfl) (by kernel_rfl) (by kernel_rfl) (fun _ _ _ h => h) (yieldsIf_load_mid (by rfl) 50 (.tmp 4) rfl g4 0 rfl (x.k.cells) _ (fun W hW => hW.range) Tryz.underlying50 rfl (by rw [kcells_len XO.out.k.ml]; kernel_rfl)) S0.out ?_
      try simp only [Act.put, List.setIfInBounds_toArray, List.set_cons_zero, List.set_cons_succ]
      refine wpAnyH_ready (rs := [0, 2]) (by kernel_rfl) (by simp) ?_
      refine ready_val (o := { dst := some 12, op := Go.Op.load 27 (Go.Operand.tmp 3), type := 27, pos := _, after := #[], guard := none }) rfl rfl _ _ (exec_load_c (.tmp 3) rfl (w.heap.size + 1) 0 A2 n2 c2 rfl (H0.out.cell (i := 0) rfl)) ⟨S0.out, ?_⟩ ?_
      · try simp only [Act.put, List.setIfInBounds_toArray, List.set_cons_zero, List.set_cons_succ]
        refine wpAnyH_ready (rs := [2]) (by kernel_rfl) (by simp) ?_
        refine AllReadyH.cons (o := { dst := some 14, op := Go.Op.call { callee := Go.Callee.value (Go.Operand.func 15), args := #[Go.Operand.tmp 13], argTypes := #[50] }, type := 40, pos := _, after := #[{ on := 1, ground := Go.Ground.data }], guard := none }) rfl (fun K hK => ?_) AllReadyH.nil
        go_simp
        refine (dot_is x.k _ XO.out.k).mono ?_
        rintro e V1 ⟨rfl, b1⟩
        have S1 := Lib.hid (S0.out.below b1)
        have H1 := Lib.hid (H0.out.below b1)
        have O1 := Lib.hid (O0.out.below b1)
        have B1 := Lib.hid (B0.out.trans (b1.mono (Nat.le_trans HZ.out B0.out.size)))
        have I1 := Lib.hid (I0.out.trans (Only.of_below b1))
        clear b1
        go_wp2_with fail
        refine hK.out _ _ S1.out (fun _ => ?_)
        clear hK K
        try simp only [Act.put, List.setIfInBounds_toArray, List.set_cons_zero, List.set_cons_succ]
        refine wpAnyH_ready (rs := [3]) (by kernel_rfl) (by simp) ?_
        refine ready_val (o := { dst := some 15, op := Go.Op.buildSlice 27 1 #[(0, Go.Operand.tmp 14)], type := 27, pos := _, after := #[{ on := 2, ground := Go.Ground.data }], guard := none }) rfl rfl _ _ (exec_num1 u24n (.tmp 14) rfl x.k.w2 rfl) ⟨S1.out.alloc _, ?_⟩ AllReadyH.nil
        try simp only [Act.put, List.setIfInBounds_toArray, List.set_cons_zero, List.set_cons_succ]
        refine wpAnyH_ready (rs := [4]) (by kernel_rfl) (by simp) ?_
        obtain ⟨E1, n1, e1, w3, he, hn3, ho3, hb3, hk3⟩ := app_two V1 (w2.heap.size + 2) A2 n2 c2 (tg pre) x.k.w2 O1.out KR.out TL.out (Nat.le_trans HZ.out B1.out.size)
        have HE := Lib.hid he
        have HN3 := Lib.hid hn3
        have O3 := Lib.hid ho3
        have S3 := Lib.hid (show Blk w3 g4 50 x.k.cells from (hk3 g4 (S1.out.alloc _).lt (O1.out.neT S1.out (by decide))).trans (S1.out.alloc _))
        have H3 := Lib.hid (show Blk w3 (w.heap.size + 1) 27 [.slice A2 n2 c2] from (H1.out.alloc _).upto hb3 HGL.out)
        have B3 := Lib.hid (show Below (w2.heap.size + 2) W w3 from (B1.out.trans ((new_below V1 (.cells #[.int .u64 x.k.w2] 40)).mono (Nat.le_trans HZ.out B1.out.size))).trans hb3)
        have I3 := Lib.hid (show Only (w.heap.size + 1) w2 w3 from ⟨hb3.os.trans (I1.out.alloc _).os, hb3.tape.trans (I1.out.alloc _).tape, hb3.output.trans (I1.out.alloc _).output, Nat.le_trans (I1.out.alloc _).size hb3.size, fun k hk hn => (hb3.block k (by omega)).trans ((I1.out.alloc _).block k hk hn)⟩)
        clear he hn3 ho3 hb3 hk3
        refine ready_val (o := { dst := some 16, op := Go.Op.call { callee := Go.Callee.builtin Go.Builtin.append, args := #[Go.Operand.tmp 12, Go.Operand.tmp 15], argTypes := #[27, 27] }, type := 27, pos := _, after := #[{ on := 0, ground := Go.Ground.data }, { on := 3, ground := Go.Ground.data }, { on := 2, ground := Go.Ground.chain }], guard := none }) rfl rfl _ _ (exec_app (.tmp 12) (.tmp 15) rfl _ _ _ rfl rfl HE.out) ⟨S3.out, ?_⟩ AllReadyH.nil
        try simp only [Act.put, List.setIfInBounds_toArray, List.set_cons_zero, List.set_cons_succ]
        refine wpAnyH_ready (rs := [5]) (by kernel_rfl) (by simp) ?_
        refine ready_skip (o := { dst := none, op := Go.Op.store 27 (Go.Operand.tmp 3) (Go.Operand.tmp 16), type := 0, pos := _, after := #[{ on := 4, ground := Go.Ground.data }, { on := 4, ground := Go.Ground.chain }, { on := 0, ground := Go.Ground.phase }, { on := 1, ground := Go.Ground.phase }, { on := 2, ground := Go.Ground.phase }, { on := 3, ground := Go.Ground.phase }, { on := 4, ground := Go.Ground.phase }], guard := none }) rfl rfl _ (exec_store_c (.tmp 3) (.tmp 16) rfl (w.heap.size + 1) 0 _ _ _ _ rfl rfl (H3.out.cell (i := 0) rfl) (H3.out.frozen 0)) ⟨S3.out.other _ _ (fun e => S3.out.neT H3.out (by decide) e), ?_⟩ AllReadyH.nil
        simp only [Act.put]
        refine wpAnyH_done (by kernel_rfl) ?_ _
        refine ⟨rfl, ?_⟩
        have OO := Lib.hid (Only.set (w.heap.size + 1) 0 w3 (.slice E1 n1 e1))
        have H4 := Lib.hid (show Blk (w3.setCell ⟨w.heap.size + 1, 0, none⟩ (.slice E1 n1 e1)) (w.heap.size + 1) 27 [.slice E1 n1 e1] from H3.out.set 0 _)
        have O4 := Lib.hid (O3.out.only OO.out (fun k hk e => O3.out.neT H3.out (by decide) (by rw [hk, e])))
        exact ⟨(KeepL.below B3.out (by omega)).trans (KeepL.only OO.out (by have := HGW.out; omega) (by have := HGW.out; omega) (by have := B3.out.size; have := HZ.out; omega)), .inl ⟨rfl, ⟨E1, n1, e1, H4.out, by rw [SN.out]; exact O4.out, I3.out.trans OO.out⟩⟩⟩
      refine AllReadyH.cons (o := { dst := some 14, op := Go.Op.call { callee := Go.Callee.value (Go.Operand.func 15), args := #[Go.Operand.tmp 13], argTypes := #[50] }, type := 40, pos := _, after := #[{ on := 1, ground := Go.Ground.data }], guard := none }) rfl (fun K hK => ?_) AllReadyH.nil
      go_simp
      refine (dot_is x.k _ XO.out.k).mono ?_
      rintro e V1 ⟨rfl, b1⟩
      have S1 := Lib.hid (S0.out.below b1)
      have H1 := Lib.hid (H0.out.below b1)
      have O1 := Lib.hid (O0.out.below b1)
      have B1 := Lib.hid (B0.out.trans (b1.mono (Nat.le_trans HZ.out B0.out.size)))
      have I1 := Lib.hid (I0.out.trans (Only.of_below b1))
      clear b1
      go_wp2_with fail
      refine hK.out _ _ S1.out (fun _ => ?_)
      clear hK K
      try simp only [Act.put, List.setIfInBounds_toArray, List.set_cons_zero, List.set_cons_succ]
      refine wpAnyH_ready (rs := [0, 3]) (by kernel_rfl) (by simp) ?_
      refine ready_val (o := { dst := some 12, op := Go.Op.load 27 (Go.Operand.tmp 3), type := 27, pos := _, after := #[], guard := none }) rfl rfl _ _ (exec_load_c (.tmp 3) rfl (w.heap.size + 1) 0 A2 n2 c2 rfl (H1.out.cell (i := 0) rfl)) ⟨S1.out, ?_⟩ ?_
      · try simp only [Act.put, List.setIfInBounds_toArray, List.set_cons_zero, List.set_cons_succ]
        refine wpAnyH_ready (rs := [3]) (by kernel_rfl) (by simp) ?_
        refine ready_val (o := { dst := some 15, op := Go.Op.buildSlice 27 1 #[(0, Go.Operand.tmp 14)], type := 27, pos := _, after := #[{ on := 2, ground := Go.Ground.data }], guard := none }) rfl rfl _ _ (exec_num1 u24n (.tmp 14) rfl x.k.w2 rfl) ⟨S1.out.alloc _, ?_⟩ AllReadyH.nil
        try simp only [Act.put, List.setIfInBounds_toArray, List.set_cons_zero, List.set_cons_succ]
        refine wpAnyH_ready (rs := [4]) (by kernel_rfl) (by simp) ?_
        obtain ⟨E1, n1, e1, w3, he, hn3, ho3, hb3, hk3⟩ := app_two V1 (w2.heap.size + 2) A2 n2 c2 (tg pre) x.k.w2 O1.out KR.out TL.out (Nat.le_trans HZ.out B1.out.size)
        have HE := Lib.hid he
        have HN3 := Lib.hid hn3
        have O3 := Lib.hid ho3
        have S3 := Lib.hid (show Blk w3 g4 50 x.k.cells from (hk3 g4 (S1.out.alloc _).lt (O1.out.neT S1.out (by decide))).trans (S1.out.alloc _))
        have H3 := Lib.hid (show Blk w3 (w.heap.size + 1) 27 [.slice A2 n2 c2] from (H1.out.alloc _).upto hb3 HGL.out)
        have B3 := Lib.hid (show Below (w2.heap.size + 2) W w3 from (B1.out.trans ((new_below V1 (.cells #[.int .u64 x.k.w2] 40)).mono (Nat.le_trans HZ.out B1.out.size))).trans hb3)
        have I3 := Lib.hid (show Only (w.heap.size + 1) w2 w3 from ⟨hb3.os.trans (I1.out.alloc _).os, hb3.tape.trans (I1.out.alloc _).tape, hb3.output.trans (I1.out.alloc _).output, Nat.le_trans (I1.out.alloc _).size hb3.size, fun k hk hn => (hb3.block k (by omega)).trans ((I1.out.alloc _).block k hk hn)⟩)
        clear he hn3 ho3 hb3 hk3
        refine ready_val (o := { dst := some 16, op := Go.Op.call { callee := Go.Callee.builtin Go.Builtin.append, args := #[Go.Operand.tmp 12, Go.Operand.tmp 15], argTypes := #[27, 27] }, type := 27, pos := _, after := #[{ on := 0, ground := Go.Ground.data }, { on := 3, ground := Go.Ground.data }, { on := 2, ground := Go.Ground.chain }], guard := none }) rfl rfl _ _ (exec_app (.tmp 12) (.tmp 15) rfl _ _ _ rfl rfl HE.out) ⟨S3.out, ?_⟩ AllReadyH.nil
        try simp only [Act.put, List.setIfInBounds_toArray, List.set_cons_zero, List.set_cons_succ]
        refine wpAnyH_ready (rs := [5]) (by kernel_rfl) (by simp) ?_
        refine ready_skip (o := { dst := none, op := Go.Op.store 27 (Go.Operand.tmp 3) (Go.Operand.tmp 16), type := 0, pos := _, after := #[{ on := 4, ground := Go.Ground.data }, { on := 4, ground := Go.Ground.chain }, { on := 0, ground := Go.Ground.phase }, { on := 1, ground := Go.Ground.phase }, { on := 2, ground := Go.Ground.phase }, { on := 3, ground := Go.Ground.phase }, { on := 4, ground := Go.Ground.phase }], guard := none }) rfl rfl _ (exec_store_c (.tmp 3) (.tmp 16) rfl (w.heap.size + 1) 0 _ _ _ _ rfl rfl (H3.out.cell (i := 0) rfl) (H3.out.frozen 0)) ⟨S3.out.other _ _ (fun e => S3.out.neT H3.out (by decide) e), ?_⟩ AllReadyH.nil
        simp only [Act.put]
        refine wpAnyH_done (by kernel_rfl) ?_ _
        refine ⟨rfl, ?_⟩
        have OO := Lib.hid (Only.set (w.heap.size + 1) 0 w3 (.slice E1 n1 e1))
        have H4 := Lib.hid (show Blk (w3.setCell ⟨w.heap.size + 1, 0, none⟩ (.slice E1 n1 e1)) (w.heap.size + 1) 27 [.slice E1 n1 e1] from H3.out.set 0 _)
        have O4 := Lib.hid (O3.out.only OO.out (fun k hk e => O3.out.neT H3.out (by decide) (by rw [hk, e])))
        exact ⟨(KeepL.below B3.out (by omega)).trans (KeepL.only OO.out (by have := HGW.out; omega) (by have := HGW.out; omega) (by have := B3.out.size; have := HZ.out; omega)), .inl ⟨rfl, ⟨E1, n1, e1, H4.out, by rw [SN.out]; exact O4.out, I3.out.trans OO.out⟩⟩⟩
      refine ready_val (o := { dst := some 15, op := Go.Op.buildSlice 27 1 #[(0, Go.Operand.tmp 14)], type := 27, pos := _, after := #[{ on := 2, ground := Go.Ground.data }], guard := none }) rfl rfl _ _ (exec_num1 u24n (.tmp 14) rfl x.k.w2 rfl) ⟨S1.out.alloc _, ?_⟩ AllReadyH.nil
      try simp only [Act.put, List.setIfInBounds_toArray, List.set_cons_zero, List.set_cons_succ]
      refine wpAnyH_ready (rs := [0]) (by kernel_rfl) (by simp) ?_
      refine ready_val (o := { dst := some 12, op := Go.Op.load 27 (Go.Operand.tmp 3), type := 27, pos := _, after := #[], guard := none }) rfl rfl _ _ (exec_load_c (.tmp 3) rfl (w.heap.size + 1) 0 A2 n2 c2 rfl ((H1.out.alloc _).cell (i := 0) rfl)) ⟨(S1.out.alloc _), ?_⟩ AllReadyH.nil
      try simp only [Act.put, List.setIfInBounds_toArray, List.set_cons_zero, List.set_cons_succ]
      refine wpAnyH_ready (rs := [4]) (by kernel_rfl) (by simp) ?_
      obtain ⟨E1, n1, e1, w3, he, hn3, ho3, hb3, hk3⟩ := app_two V1 (w2.heap.size + 2) A2 n2 c2 (tg pre) x.k.w2 O1.out KR.out TL.out (Nat.le_trans HZ.out B1.out.size)
      have HE := Lib.hid he
      have HN3 := Lib.hid hn3
      have O3 := Lib.hid ho3
      have S3 := Lib.hid (show Blk w3 g4 50 x.k.cells from (hk3 g4 (S1.out.alloc _).lt (O1.out.neT S1.out (by decide))).trans (S1.out.alloc _))
      have H3 := Lib.hid (show Blk w3 (w.heap.size + 1) 27 [.slice A2 n2 c2] from (H1.out.alloc _).upto hb3 HGL.out)
      have B3 := Lib.hid (show Below (w2.heap.size + 2) W w3 from (B1.out.trans ((new_below V1 (.cells #[.int .u64 x.k.w2] 40)).mono (Nat.le_trans HZ.out B1.out.size))).trans hb3)
      have I3 := Lib.hid (show Only (w.heap.size + 1) w2 w3 from ⟨hb3.os.trans (I1.out.alloc _).os, hb3.tape.trans (I1.out.alloc _).tape, hb3.output.trans (I1.out.alloc _).output, Nat.le_trans (I1.out.alloc _).size hb3.size, fun k hk hn => (hb3.block k (by omega)).trans ((I1.out.alloc _).block k hk hn)⟩)
      clear he hn3 ho3 hb3 hk3
      refine ready_val (o := { dst := some 16, op := Go.Op.call { callee := Go.Callee.builtin Go.Builtin.append, args := #[Go.Operand.tmp 12, Go.Operand.tmp 15], argTypes := #[27, 27] }, type := 27, pos := _, after := #[{ on := 0, ground := Go.Ground.data }, { on := 3, ground := Go.Ground.data }, { on := 2, ground := Go.Ground.chain }], guard := none }) rfl rfl _ _ (exec_app (.tmp 12) (.tmp 15) rfl _ _ _ rfl rfl HE.out) ⟨S3.out, ?_⟩ AllReadyH.nil
      try simp only [Act.put, List.setIfInBounds_toArray, List.set_cons_zero, List.set_cons_succ]
      refine wpAnyH_ready (rs := [5]) (by kernel_rfl) (by simp) ?_
      refine ready_skip (o := { dst := none, op := Go.Op.store 27 (Go.Operand.tmp 3) (Go.Operand.tmp 16), type := 0, pos := _, after := #[{ on := 4, ground := Go.Ground.data }, { on := 4, ground := Go.Ground.chain }, { on := 0, ground := Go.Ground.phase }, { on := 1, ground := Go.Ground.phase }, { on := 2, ground := Go.Ground.phase }, { on := 3, ground := Go.Ground.phase }, { on := 4, ground := Go.Ground.phase }], guard := none }) rfl rfl _ (exec_store_c (.tmp 3) (.tmp 16) rfl (w.heap.size + 1) 0 _ _ _ _ rfl rfl (H3.out.cell (i := 0) rfl) (H3.out.frozen 0)) ⟨S3.out.other _ _ (fun e => S3.out.neT H3.out (by decide) e), ?_⟩ AllReadyH.nil
      simp only [Act.put]
      refine wpAnyH_done (by kernel_rfl) ?_ _
      refine ⟨rfl, ?_⟩
      have OO := Lib.hid (Only.set (w.heap.size + 1) 0 w3 (.slice E1 n1 e1))
      have H4 := Lib.hid (show Blk (w3.setCell ⟨w.heap.size + 1, 0, none⟩ (.slice E1 n1 e1)) (w.heap.size + 1) 27 [.slice E1 n1 e1] from H3.out.set 0 _)
      have O4 := Lib.hid (O3.out.only OO.out (fun k hk e => O3.out.neT H3.out (by decide) (by rw [hk, e])))
      exact ⟨(KeepL.below B3.out (by omega)).trans (KeepL.only OO.out (by have := HGW.out; omega) (by have := HGW.out; omega) (by have := B3.out.size; have := HZ.out; omega)), .inl ⟨rfl, ⟨E1, n1, e1, H4.out, by rw [SN.out]; exact O4.out, I3.out.trans OO.out⟩⟩⟩
    · have hbs : (x.k.s == 1) = false := by simp [hs1]
      have SN := Lib.hid (tg_no (s := pre) hbs)
      clear hs1
      gi_wp2_with fail
      exact ⟨KeepL.refl _ _, by rw [SN.out]; exact ⟨A2, n2, c2, H1x.out, O1x.out, I1x.out⟩⟩
  case done =>
    intro D W hD hi hd
    obtain ⟨A2, n2, c2, h1, h2, h3⟩ := hi
    have H1 := Lib.hid h1
    have O1 := Lib.hid h2
    have I1 := Lib.hid h3
    have R0 := Lib.hid (W1.out.only h3 (by omega))
    have HD := Lib.hid hd
    have TL : (tg s).length ≤ 2000 := by have := tg_len s; have := hal.out; omega
    have NP := Lib.hid (hp.out ▸ (nrm_of vz_ok (tg s)).v)
    have c0 := h1.cell (i := 0) rfl
    obtain rfl : n2 = (tg s).length := h2.at_.len
    clear hd h1 h2 h3
    show K0 _ _
    refine hK0 _ _ ?_
    gi_wp2_with fail
    refine ⟨trivial, (callsIn_wide.2 (of_is (tg s) A2 c2 W O1.out.at_ TL p hp)).mono ?_⟩
    rintro e W9 ⟨A9, c9, rfl, o9, b9⟩
    have O9 := Lib.hid o9
    have R9 := Lib.hid (R0.out.below b9)
    have D9 := Lib.hid ((b9.block D (Array.getElem?_eq_some_iff.1 HD.out).1).trans HD.out)
    have BW := Lib.hid (show Below w.heap.size w W from B1.out.trans (I1.out.below (by omega) (by have := LT.out; omega)))
    have B9 := Lib.hid (BW.out.trans (b9.mono BW.out.size))
    clear o9 b9 c0
    gi_wp2_with (first
      | (refine in_plain wide_no rfl (by intro c h; cases h) ?_; refine wpList_store_s t33 rfl _ _ rfl w.heap.size vz p.1 _ A9 p.2.length c9 rfl rfl R9.out vz_len NP.out.len ?_; intro V3 N3 O3; refine in_done ?_))
    have hDD : w.heap.size ≠ D := by have := LT.out; omega
    refine marks_ret D rfl ((O3.out.block D (Array.getElem?_eq_some_iff.1 D9.out).1 (fun e => hDD e.symm)).trans D9.out) (results_s t33 rfl _ _ w.heap.size p.1 _ rfl (blk_put N3.out hDD) NP.out.len) ?_
    have O10 := O9.out.only O3.out (fun k hk e => O9.out.neT R9.out (by decide) (by rw [hk, e]))
    exact ⟨A9, c9, rfl, (O10.same (fun k hk => World.putObj_heap_other (by have := (O9.out.lt hk).1; have h7 := (Array.getElem?_eq_some_iff.1 HD.out).1; omega))).down BW.out.size, below_put (B9.out.trans (O3.out.below (Nat.le_refl _) B9.out.size)) (by have := LT.out; omega)⟩
  case stop =>
    intro D W hD hx hd
    exact hx.elim
end Go.Proofs.YtpgafijeecmgmaaGreat
namespace Go.Proofs.YtpgafijeecmgmaaGreat
open Go.RowKit

theorem run_wd2 (a b c : Int) (w : World) : (Instr.index 58 (.agg (wd a b c).toArray) (.int .i64 2)).run Tryz.prog w = .ok (.int .u64 c) w := by kernel_rfl
theorem exec_wd2 {o : Oper} {a : Act} {w : World} (x : Operand) (ho : o.op = .index 58 x (.const (.int .i64 2))) (i j k : Int) (hx : a.eval x = .agg (wd i j k).toArray) :
    (execOp a.eval o).run Tryz.prog w = .ok (.value (.int .u64 k)) w := by
  have hc : a.eval (.const (.int .i64 2)) = .int .i64 2 := rfl
  unfold execOp
  simp only [ho, hx, hc, Sem.run_bind, run_wd2, Result.andThen_ok, Sem.run_pure]
set_option maxRecDepth 100000 in
set_option maxHeartbeats 4000000 in
theorem rseen_is (A : Option Addr) (n cap : Nat) (a : List Am) (w : World) (h : RowV w A n cap a) (hn : n ≤ 600) (p0 : List Int × List Int) (hp : Hid (nrm vz (tg (norm a)) = p0)) : Calls Tryz.prog 8 #[.slice A n cap] w (GivesP w p0) := by
  have H := Lib.hid h
  have NP := Lib.hid (hp.out ▸ (nrm_of vz_ok (tg (norm a))).v)
  clear h
  go_enter Tryz.func8, Tryz.ntmps8
  go_wp2_with (refine wpList_alloc_s t26 rfl rfl ?_; intro gr w1 egr R1 b1)
  refine (refNorm_is A n cap a w1 (H.out.below b1.out) (by omega)).mono ?_
  rintro e V ⟨⟨D, m, c, rfl, r1⟩, b2⟩
  have RV := Lib.hid r1
  have R2 := Lib.hid (R1.out.below b2)
  have B2 := Lib.hid (step_ b1.out b2)
  have hgr := Lib.hid (show w.heap.size ≤ gr by have := egr.out; omega)
  have hm : m ≤ 600 := by have := norm_len a; rw [r1.len, H.out.len] at this; omega
  clear r1 b2 R1 b1 egr
  obtain ⟨s, hs⟩ : ∃ s, norm a = s := ⟨_, rfl⟩
  rw [hs] at RV hp
  clear hs
  go_wp2_with (first
    | refine wpList_build rfl 33 _ rfl [] rfl _ built_s26z ?_
    | (refine wpList_alloc_s t26 rfl rfl ?_; intro go w4 ego S4 b4)
    | (refine wpList_store_s t26 rfl _ _ rfl go vz vz _ none 0 0 rfl rfl S4.out vz_len vz_len ?_; intro w5 S5 o5))
  have ego' := ego.out
  have lr := R2.out.lt
  have hvgo := Lib.hid (show V.heap.size ≤ go by omega)
  have hgrgo := Lib.hid (show gr < go by omega)
  have B5 := Lib.hid (show Below V.heap.size V w5 from b4.out.trans (o5.out.below (by omega) b4.out.size))
  have R5 := Lib.hid (R2.out.below B5.out)
  have hgo5 := Lib.hid (show go < w5.heap.size from S5.out.lt)
  clear S4 b4 o5 ego ego' lr
  go_loopw [4] (fun i wr => ∃ (j : Nat) (A' : Option Addr) (c' : Nat), j ≤ m ∧ i = .int .i64 j ∧ Blk wr go 33 (sc vz (.slice A' (puts vz (tg (s.take j)) []).length c')) ∧ NumsAt wr (.slice A' (puts vz (tg (s.take j)) []).length c') (puts vz (tg (s.take j)) []) ∧ Blk wr gr 33 (sc vz (.slice none 0 0)) ∧ Below V.heap.size V wr ∧ go < wr.heap.size) (fun i _ => m - (intOf i).toNat)
  case atStart => exact ⟨0, none, 0, Nat.zero_le _, rfl, S5.out, nums_at_nil _, R5.out, B5.out, hgo5.out⟩
  case round =>
    clear S5 R5 B5 hgo5
    obtain ⟨j, A', c', hj, rfl, hs, hv, hrr, hb, hgs⟩ := hrel
    obtain ⟨q, hq⟩ : ∃ q, puts vz (tg (s.take j)) [] = q := ⟨_, rfl⟩
    have HQ := Lib.hid hq
    have hql : q.length ≤ 5000 := by
      rw [← hq]
      have h1 := puts_len vz (tg (s.take j)) []
      have h2 := tg_len (s.take j)
      rw [List.length_take] at h2
      simp only [List.length_nil] at h1
      omega
    rw [hq] at hs hv
    have S0x := Lib.hid hs
    have V0 := Lib.hid hv
    have R0 := Lib.hid hrr
    have BV := Lib.hid hb
    clear hs hv hrr hb hq
    by_cases hlt : j < m
    · obtain ⟨G, p, hE⟩ := (RV.out.below BV.out).elem j hlt
      have E := Lib.hid hE
      have TK := Lib.hid (take_getD (l := s) (j := j) (by have := RV.out.len; omega))
      obtain ⟨x, hx⟩ : ∃ x, s.getD j azero = x := ⟨_, rfl⟩
      rw [hx] at E TK
      clear hE hx
      have XO := Lib.hid E.out.ok
      have c0 : wr.cell? ⟨G, p, none⟩ = some (.int .u8 x.k.s) := (range_ak E.out.rg) 0 _ (kc0 x.k)
      have hGV : G < V.heap.size := by
        obtain ⟨G', p', hE'⟩ := RV.out.elem j hlt
        obtain ⟨o1, h1, _⟩ := E.out.ad
        obtain ⟨o2, h2, _⟩ := hE'.ad
        rw [h1] at h2
        simp only [Option.some.injEq, Addr.mk.injEq] at h2
        have := hE'.blk
        omega
      have HGO := Lib.hid (show G < go from Nat.lt_of_lt_of_le hGV hvgo.out)
      clear hGV
      by_cases hs1 : x.k.s = 1
      · have hbs : (x.k.s == 1) = true := by rw [hs1]; rfl
        have SN := Lib.hid (tg_yes (s := s.take j) hbs)
        have KR := Lib.hid (show 0 ≤ x.k.w2 ∧ x.k.w2 < 18446744073709551616 by have := XO.out.k.w2r; omega)
        obtain ⟨q2, hq2⟩ : ∃ q2, putd vz q x.k.w2 = q2 := ⟨_, rfl⟩
        have HQ2 := Lib.hid hq2
        have PN := Lib.hid (show puts vz (tg (s.take (j + 1))) [] = q2 by rw [TK.out, SN.out, puts_snoc, HQ.out, hq2])
        clear hs1 hq2
        go_wp2_with (refine wpList_index rfl _ _ rfl D m c G p j x _ rfl rfl (by first | rfl | omega) E.out ?_)
        clear c0
        have S0 := Lib.hid (show Below go wr wr.drew from below_drew (Below.refl _ _))
        have SD := Lib.hid (S0x.out.drew)
        have VD := Lib.hid (V0.out.below (show Below wr.heap.size wr wr.drew from below_drew (Below.refl _ _)))
        refine wp_region_noPanic ?_
        refine wp_region_held_drew (S := fun W => Below go wr W) (by kernel_rfl) S0.out (fun _ => ?_)
        refine wpAnyH_take (i := 1) (oi := { dst := some 22, op := Go.Op.move (Go.Operand.tmp 0), type := 22, pos := _, after := #[], guard := none }) (v := ?_) rfl (by kernel_rfl) (by kernel_rfl) (by kernel_rfl) (fun _ _ _ h => h) (Or.inl ⟨by rfl, ?_⟩) S0.out ?_
        rotate_left
        · intro W hW; (go_simp; try with_reducible rfl)
        try simp only [Act.put, List.setIfInBounds_toArray, List.set_cons_zero, List.set_cons_succ]
        refine wpAnyH_take (i := 2) (oi := { dst := some 23, op := Go.Op.move (Go.Operand.tmp 4), type := 3, pos := _, after := #[], guard := none }) (v := ?_) rfl (by kernel_rfl) (by kernel_rfl) (by kernel_rfl) (fun _ _ _ h => h) (Or.inl ⟨by rfl, ?_⟩) S0.out ?_
        rotate_left
        · intro W hW; (go_simp; try with_reducible rfl)
        try simp only [Act.put, List.setIfInBounds_toArray, List.set_cons_zero, List.set_cons_succ]
        refine wpAnyH_take (i := 3) (oi := { dst := some 24, op := Go.Op.indexAddr 22 (Go.Operand.tmp 22) (Go.Operand.tmp 23), type := 0, pos := _, after := #[{ on := 1, ground := Go.Ground.data }, { on := 2, ground := Go.Ground.data }], guard := none }) (v := .pointer (some ⟨G, p, none⟩)) rfl (by kernel_rfl) (by kernel_rfl) (by kernel_rfl) (fun _ _ _ h => h) (Or.inl ⟨by rfl, fun W hW => exec_index (.tmp 22) (.tmp 23) rfl D m c G p j x _ rfl rfl rfl E.out⟩) S0.out ?_
        try simp only [Act.put, List.setIfInBounds_toArray, List.set_cons_zero, List.set_cons_succ]
        refine wpAnyH_take (i := 4) (oi := { dst := some 25, op := Go.Op.fieldAddr 56 (Go.Operand.tmp 24) 0, type := 0, pos := _, after := #[{ on := 3, ground := Go.Ground.data }], guard := none }) (v := ?_) rfl (by kernel_rfl) (by kernel_rfl) (by kernel_rfl) (fun _ _ _ h => h) (Or.inl ⟨by rfl, ?_⟩) S0.out ?_
        rotate_left
        · intro W hW; (go_simp; try with_reducible rfl)
        try simp only [Act.put, List.setIfInBounds_toArray, List.set_cons_zero, List.set_cons_succ]
        refine wpAnyH_take (i := 5) (oi := { dst := some 26, op := Go.Op.load 50 (Go.Operand.tmp 25), type := 50, pos := _, after := #[{ on := 4, ground := Go.Ground.data }], guard := none }) (v := .agg (x.k.cells).toArray) rfl (by kernel_rfl) (by kernel_rfl) (by kernel_rfl) (fun _ _ _ h => h) (yieldsIf_load_mid (by rfl) 50 (.tmp 25) rfl G p rfl (x.k.cells) _ (fun W hW => range_ak (fun i v hv => ((hW.cell (p := ⟨G, p + i, none⟩) HGO.out).trans (E.out.rg i v hv)))) Tryz.underlying50 rfl (by rw [kcells_len XO.out.k.ml]; kernel_rfl)) S0.out ?_
        try simp only [Act.put, List.setIfInBounds_toArray, List.set_cons_zero, List.set_cons_succ]
        refine wpAnyH_ready (rs := [0, 6]) (by kernel_rfl) (by simp) ?_
        refine ready_load_s t26 (o := { dst := some 21, op := Go.Op.load 33 (Go.Operand.tmp 3), type := 33, pos := _, after := #[], guard := none }) rfl rfl (.tmp 3) rfl go vz _ rfl SD.out vz_len ⟨S0.out, ?_⟩ ?_
        · try simp only [Act.put, List.setIfInBounds_toArray, List.set_cons_zero, List.set_cons_succ]
          refine wpAnyH_ready (rs := [6]) (by kernel_rfl) (by simp) ?_
          refine AllReadyH.cons (o := { dst := some 27, op := Go.Op.call { callee := Go.Callee.value (Go.Operand.func 18), args := #[Go.Operand.tmp 26], argTypes := #[50] }, type := 58, pos := _, after := #[{ on := 5, ground := Go.Ground.data }], guard := none }) rfl (fun K hK => ?_) AllReadyH.nil
          go_simp
          refine (refWords_is x.k _ XO.out.k).mono ?_
          rintro e Wa ⟨rfl, ba⟩
          have Sa := Lib.hid (S0.out.trans (ba.mono (Nat.le_of_lt SD.out.lt)))
          have SE := Lib.hid (SD.out.below ba)
          have VE := Lib.hid (VD.out.below ba)
          clear ba
          go_wp2_with fail
          refine hK.out _ _ Sa.out (fun _ => ?_)
          clear hK K
          try simp only [Act.put, List.setIfInBounds_toArray, List.set_cons_zero, List.set_cons_succ]
          refine wpAnyH_take (i := 7) (oi := { dst := some 28, op := Go.Op.index 58 (Go.Operand.tmp 27) (Go.Operand.const (Go.Value.int Go.IntKind.i64 2)), type := 40, pos := _, after := #[{ on := 6, ground := Go.Ground.data }], guard := none }) (v := .int .u64 x.k.w2) rfl (by kernel_rfl) (by kernel_rfl) (by kernel_rfl) (fun _ _ _ h => h) (Or.inl ⟨by rfl, fun W hW => exec_wd2 (.tmp 27) rfl _ _ _ rfl⟩) Sa.out ?_
          try simp only [Act.put, List.setIfInBounds_toArray, List.set_cons_zero, List.set_cons_succ]
          refine wpAnyH_ready (rs := [8]) (by kernel_rfl) (by simp) ?_
          refine AllReadyH.cons (o := { dst := some 29, op := Go.Op.call { callee := Go.Callee.value (Go.Operand.func 17), args := #[Go.Operand.tmp 21, Go.Operand.tmp 28], argTypes := #[33, 40] }, type := 33, pos := _, after := #[{ on := 0, ground := Go.Ground.data }, { on := 7, ground := Go.Ground.data }, { on := 6, ground := Go.Ground.chain }], guard := none }) rfl (fun K hK => ?_) AllReadyH.nil
          go_simp
          refine (rput_is vz q A' c' x.k.w2 _ vz_ok VE.out hql KR.out q2 HQ2).mono ?_
          rintro e Wb ⟨Ab, cb, rfl, vb, bb⟩
          have Sb := Lib.hid (Sa.out.trans (bb.mono (Nat.le_of_lt SE.out.lt)))
          have SF := Lib.hid (SE.out.below bb)
          have VB := Lib.hid vb
          clear bb vb
          go_wp2_with fail
          refine hK.out _ _ Sb.out (fun _ => ?_)
          clear hK K
          try simp only [Act.put, List.setIfInBounds_toArray, List.set_cons_zero, List.set_cons_succ]
          refine wpAnyH_ready (rs := [9]) (by kernel_rfl) (by simp) ?_
          refine ready_store_s t26 (o := { dst := none, op := Go.Op.store 33 (Go.Operand.tmp 3) (Go.Operand.tmp 29), type := 0, pos := _, after := #[{ on := 8, ground := Go.Ground.data }, { on := 8, ground := Go.Ground.chain }, { on := 0, ground := Go.Ground.phase }, { on := 1, ground := Go.Ground.phase }, { on := 2, ground := Go.Ground.phase }, { on := 3, ground := Go.Ground.phase }, { on := 4, ground := Go.Ground.phase }, { on := 5, ground := Go.Ground.phase }, { on := 6, ground := Go.Ground.phase }, { on := 7, ground := Go.Ground.phase }, { on := 8, ground := Go.Ground.phase }], guard := none }) rfl rfl (.tmp 3) (.tmp 29) rfl go vz vz _ Ab q2.length cb rfl rfl SF.out vz_len vz_len (fun wz z2 o2 => ⟨Sb.out.trans (o2.below (Nat.le_refl _) (Nat.le_of_lt SF.out.lt)), ?_⟩) AllReadyH.nil
          simp only [Act.put]
          refine wpAnyH_done (by kernel_rfl) ?_ _
          refine NoPanic.normal ?_
          have S2 := Lib.hid (Sb.out.trans (o2.below (Nat.le_refl _) (Nat.le_of_lt SF.out.lt)))
          have Z2 := Lib.hid z2
          have V2 := Lib.hid (VB.out.only_s SF.out (fun x => by intro h; cases h) o2)
          clear z2 o2
          go_wp2_with fail
          go_roundw
          case rel =>
            refine ⟨j + 1, Ab, cb, by omega, by go_num, ?_, ?_, R0.out.upto S2.out hgrgo.out, BV.out.trans (S2.out.mono hvgo.out), Nat.lt_of_lt_of_le SD.out.lt S2.out.size⟩
            · rw [PN.out]; exact Z2.out
            · rw [PN.out]; exact V2.out
          case measure => simp [intOf]; omega
        refine AllReadyH.cons (o := { dst := some 27, op := Go.Op.call { callee := Go.Callee.value (Go.Operand.func 18), args := #[Go.Operand.tmp 26], argTypes := #[50] }, type := 58, pos := _, after := #[{ on := 5, ground := Go.Ground.data }], guard := none }) rfl (fun K hK => ?_) AllReadyH.nil
        go_simp
        refine (refWords_is x.k _ XO.out.k).mono ?_
        rintro e Wa ⟨rfl, ba⟩
        have Sa := Lib.hid (S0.out.trans (ba.mono (Nat.le_of_lt SD.out.lt)))
        have SE := Lib.hid (SD.out.below ba)
        have VE := Lib.hid (VD.out.below ba)
        clear ba
        go_wp2_with fail
        refine hK.out _ _ Sa.out (fun _ => ?_)
        clear hK K
        try simp only [Act.put, List.setIfInBounds_toArray, List.set_cons_zero, List.set_cons_succ]
        refine wpAnyH_take (i := 7) (oi := { dst := some 28, op := Go.Op.index 58 (Go.Operand.tmp 27) (Go.Operand.const (Go.Value.int Go.IntKind.i64 2)), type := 40, pos := _, after := #[{ on := 6, ground := Go.Ground.data }], guard := none }) (v := .int .u64 x.k.w2) rfl (by kernel_rfl) (by kernel_rfl) (by kernel_rfl) (fun _ _ _ h => h) (Or.inl ⟨by rfl, fun W hW => exec_wd2 (.tmp 27) rfl _ _ _ rfl⟩) Sa.out ?_
        try simp only [Act.put, List.setIfInBounds_toArray, List.set_cons_zero, List.set_cons_succ]
        refine wpAnyH_ready (rs := [0]) (by kernel_rfl) (by simp) ?_
        refine ready_load_s t26 (o := { dst := some 21, op := Go.Op.load 33 (Go.Operand.tmp 3), type := 33, pos := _, after := #[], guard := none }) rfl rfl (.tmp 3) rfl go vz _ rfl SE.out vz_len ⟨Sa.out, ?_⟩ AllReadyH.nil
        try simp only [Act.put, List.setIfInBounds_toArray, List.set_cons_zero, List.set_cons_succ]
        refine wpAnyH_ready (rs := [8]) (by kernel_rfl) (by simp) ?_
        refine AllReadyH.cons (o := { dst := some 29, op := Go.Op.call { callee := Go.Callee.value (Go.Operand.func 17), args := #[Go.Operand.tmp 21, Go.Operand.tmp 28], argTypes := #[33, 40] }, type := 33, pos := _, after := #[{ on := 0, ground := Go.Ground.data }, { on := 7, ground := Go.Ground.data }, { on := 6, ground := Go.Ground.chain }], guard := none }) rfl (fun K hK => ?_) AllReadyH.nil
        go_simp
        refine (rput_is vz q A' c' x.k.w2 _ vz_ok VE.out hql KR.out q2 HQ2).mono ?_
        rintro e Wb ⟨Ab, cb, rfl, vb, bb⟩
        have Sb := Lib.hid (Sa.out.trans (bb.mono (Nat.le_of_lt SE.out.lt)))
        have SF := Lib.hid (SE.out.below bb)
        have VB := Lib.hid vb
        clear bb vb
        go_wp2_with fail
        refine hK.out _ _ Sb.out (fun _ => ?_)
        clear hK K
        try simp only [Act.put, List.setIfInBounds_toArray, List.set_cons_zero, List.set_cons_succ]
        refine wpAnyH_ready (rs := [9]) (by kernel_rfl) (by simp) ?_
        refine ready_store_s t26 (o := { dst := none, op := Go.Op.store 33 (Go.Operand.tmp 3) (Go.Operand.tmp 29), type := 0, pos := _, after := #[{ on := 8, ground := Go.Ground.data }, { on := 8, ground := Go.Ground.chain }, { on := 0, ground := Go.Ground.phase }, { on := 1, ground := Go.Ground.phase }, { on := 2, ground := Go.Ground.phase }, { on := 3, ground := Go.Ground.phase }, { on := 4, ground := Go.Ground.phase }, { on := 5, ground := Go.Ground.phase }, { on := 6, ground := Go.Ground.phase }, { on := 7, ground := Go.Ground.phase }, { on := 8, ground := Go.Ground.phase }], guard := none }) rfl rfl (.tmp 3) (.tmp 29) rfl go vz vz _ Ab q2.length cb rfl rfl SF.out vz_len vz_len (fun wz z2 o2 => ⟨Sb.out.trans (o2.below (Nat.le_refl _) (Nat.le_of_lt SF.out.lt)), ?_⟩) AllReadyH.nil
        simp only [Act.put]
        refine wpAnyH_done (by kernel_rfl) ?_ _
        refine NoPanic.normal ?_
        have S2 := Lib.hid (Sb.out.trans (o2.below (Nat.le_refl _) (Nat.le_of_lt SF.out.lt)))
        have Z2 := Lib.hid z2
        have V2 := Lib.hid (VB.out.only_s SF.out (fun x => by intro h; cases h) o2)
        clear z2 o2
        go_wp2_with fail
        go_roundw
        case rel =>
          refine ⟨j + 1, Ab, cb, by omega, by go_num, ?_, ?_, R0.out.upto S2.out hgrgo.out, BV.out.trans (S2.out.mono hvgo.out), Nat.lt_of_lt_of_le SD.out.lt S2.out.size⟩
          · rw [PN.out]; exact Z2.out
          · rw [PN.out]; exact V2.out
        case measure => simp [intOf]; omega
      · have hbs : (x.k.s == 1) = false := by simp [hs1]
        have PN := Lib.hid (show puts vz (tg (s.take (j + 1))) [] = q by rw [TK.out, tg_no hbs, HQ.out])
        clear hs1
        go_wp2_with (refine wpList_index rfl _ _ rfl D m c G p j x _ rfl rfl (by first | rfl | omega) E.out ?_)
        go_roundw
        case rel => exact ⟨j + 1, A', c', by omega, by go_num, by rw [PN.out]; exact S0x.out, by rw [PN.out]; exact V0.out, R0.out, BV.out, hgs⟩
        case measure => simp [intOf]; omega
    · obtain rfl : m = j := by omega
      have WT := puts_inv (f := vz) (tg s) [] [] (Waits.nil vz) List.Pairwise.nil
      rw [List.nil_append] at WT
      have hq2 := HQ.out
      rw [List.take_of_length_le (by have := RV.out.len; omega)] at hq2
      rw [hq2] at WT
      have RN := Lib.hid (WT.1.rnd vz_ok WT.2)
      clear WT hq2
      go_wp2_with (refine wpList_load_s t26 rfl _ rfl go vz _ rfl S0x.out vz_len ?_)
      refine (rsettle_is vz (tg s) vz q A' c' wr vz_ok RN.out V0.out hql p0 hp).mono ?_
      rintro e w9 ⟨A9, c9, rfl, v9, b9⟩
      have V9 := Lib.hid v9
      have R9 := Lib.hid (R0.out.below b9)
      have BW := Lib.hid (B2.out.trans (BV.out.mono B2.out.size))
      have B9 := Lib.hid (step_ BW.out b9)
      clear v9 b9
      go_wp2_with (refine wpList_store_s t26 rfl _ _ rfl gr vz p0.1 _ A9 p0.2.length c9 rfl rfl R9.out vz_len NP.out.len ?_; intro w10 R10 o10)
      refine bodyPost_ret (results_s t26 rfl _ _ gr p0.1 _ rfl R10.out NP.out.len) rfl ?_
      exact ⟨A9, c9, rfl, V9.out.only_s R9.out (fun x => by intro h; cases h) o10.out, B9.out.trans (o10.out.below hgr.out B9.out.size)⟩
end Go.Proofs.YtpgafijeecmgmaaGreat
