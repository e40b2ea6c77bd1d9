/- among's condition, and Sift. Pick: the atoms of a state whose sums are wanted. -/
import Derived.Test.YtnpbmihbmilkbaaGreatG44
namespace Go.Proofs.YtnpbmihbmilkbaaGreat
open Go.RowKit Go.Shelf
attribute [local go_sem] Oper.semAt_some
/-- What among's condition stands on. -/
structure Amg (V : World) (g b k : Nat) (s : List Int) : Prop where
  blk : Blk V g 70 [.map (some b)]
  set : SetM V b k s
theorem Amg.below {V V' : World} {g b k : Nat} {s : List Int} (h : Amg V g b k s) (hb : Below V.heap.size V V') : Amg V' g b k s := ⟨h.blk.below hb, h.set.below hb⟩
theorem Amg.upto {V V' : World} {B g b k : Nat} {s : List Int} (h : Amg V g b k s) (hb : Below B V V') (h1 : g < B) (h2 : b < B) : Amg V' g b k s := ⟨(hb.block g h1).trans h.blk, h.set.same (hb.block b h2)⟩
set_option maxRecDepth 100000 in
set_option maxHeartbeats 2000000 in
theorem among1_is (x : Int) (r : Bool) (g b k : Nat) (s : List Int) (w : World) (h : Amg w g b k s) (hx : 0 ≤ x ∧ x < 18446744073709551616) (hr : Hid (s.contains x = r)) : Calls Tryz.prog 41 #[.int .u64 x, .pointer (some ⟨g, 0, none⟩)] w fun e w' => e = .returned (.bool r) ∧ Below w.heap.size w w' := by
  have H := Lib.hid h
  have c1 := h.blk.cell (i := 0) rfl
  clear h
  go_enter Tryz.func41, Tryz.ntmps41
  go_wp2_with (first
    | (refine wpList_lookD rfl _ _ rfl b k s x r rfl rfl H.out.set hx hr.out ?_)
    | (refine wpList_alloc0 rfl rfl ?_; intro g6 w6 e6 N6 B6))
  go_ret
  exact ⟨rfl, B6.out⟩
theorem NumsAt.grown {w w' : World} {n cap : Nat} {A : Option Addr} {l : List Int} {row : Option Nat} (h : NumsAt w (.slice A n cap) l) (ho : w.grownBy w' row) (hg : ∀ G off, A = some ⟨G, off, none⟩ → some G ≠ row) : NumsAt w' (.slice A n cap) l := by
  obtain ⟨a, c, e, hc, hn, hx⟩ := h
  cases e
  refine ⟨_, _, rfl, hc, hn, fun h0 => ?_⟩
  obtain ⟨G, off, e, hG, hr⟩ := hx h0
  refine ⟨G, off, e, Nat.lt_of_lt_of_le hG ho.size, fun i hi => ?_⟩
  rw [World.cell?_of_block (ho.block G hG (hg G off e))]
  exact hr i hi
/-- The two do not lie in one block. -/
def OffN (u v : Value) : Prop := u.ownBlock = none ∨ u.ownBlock ≠ v.ownBlock
theorem OffN.symm {u v : Value} (h : OffN u v) : OffN v u := by
  rcases h with h | h
  · by_cases e : v.ownBlock = none
    · exact .inl e
    · exact .inr fun e2 => e (by rw [e2, h])
  · exact .inr fun e => h e.symm
theorem wpList_app_n2 {t : TypeId} (hu : Tryz.prog.underlying t = some (.slice 22)) {ops : Array Oper} {rest : List Oper} {op : Oper} {a : Act} {w : World} {Q : Exit → Act → World → Prop} (hgd : op.guard = none) (s x : Operand) (ho : op.op = .call { callee := .builtin .append, args := #[s, x], argTypes := #[t, t] })
    (B : Nat) (v u : Value) (l m : List Int) (hs : a.eval s = v) (hx : a.eval x = u) (hown : OwnN w B v l) (hm : NumsAt w u m) (hn : l.length + m.length ≤ 30000) (hB : B ≤ w.heap.size) (v2 : Value) (l2 : List Int) (h2 : OwnN w B v2 l2) (hoff : OffN v v2)
    (h : ∀ v' w', Hid (OwnN w' B v' (l ++ m)) → Hid (Below B w w') → Hid (OwnN w' B v2 l2) → Hid (OffN v' v2) → wpList Tryz.prog ops Q rest (a.put op.dst v') w') : wpList Tryz.prog ops Q (op :: rest) a w := by
  refine wpList_plain hgd fun K hK => ?_
  obtain ⟨v', w', hr, h1, h3, h4, h5⟩ := run_app_nums w hu op.type B v u l m hown hm hn hB
  unfold Oper.wp execOp
  simp only [ho, resolve, invoke, builtin, Sem.run_bind, Sem.run_pure, Result.andThen_ok, List.map_toArray, List.map_cons, List.map_nil, hs, hx, hr]
  refine hK _ _ (h v' w' (Lib.hid h1) (Lib.hid h4) (Lib.hid (h2.kept h3 ?_)) (Lib.hid ?_))
  · exact hoff.symm
  · rcases h5 with h5 | h5
    · unfold OffN; rw [h5]; exact hoff
    · right
      rw [h5]
      intro e
      have := (h2.lt e.symm).2
      omega
set_option maxRecDepth 100000 in
set_option maxHeartbeats 4000000 in
theorem psift_is (A : Option Addr) (n cap : Nat) (l : List Int) (A2 : Option Addr) (n2 cap2 : Nat) (m : List Int) (P Q : List Int) (w : World) (h : NumsAt w (.slice A n cap) l) (h2 : NumsAt w (.slice A2 n2 cap2) m) (hn : n ≤ 1000) (hn2 : n2 ≤ 1000) (hP : Hid (rise (inn l m) = P)) (hQ : Hid (rise (out_ l m) = Q)) :
    Calls Tryz.prog 16 #[.slice A n cap, .slice A2 n2 cap2] w (Gives2 w P Q) := by
  have H := Lib.hid h
  have HL := Lib.hid h.len
  have NL := Lib.hid h.nums
  have H2 := Lib.hid h2
  clear h h2
  go_enter Tryz.func16, Tryz.ntmps16
  go_wp2_with fail
  refine (among_is A2 n2 cap2 m _ H2.out hn2).mono ?_
  rintro e w1 ⟨⟨g, b, k, s, rfl, hb, hm, hs, lg, lb⟩, b1⟩
  have AM := Lib.hid (show Amg w1 g b k s from ⟨hb, hm⟩)
  have SE := Lib.hid hs
  have B1 := Lib.hid b1
  have H1 := Lib.hid (H.out.below b1)
  clear hb hm hs lg lb b1
  go_wp2_with fail
  go_loopw [7, 8, 10, 15] (fun o1 o2 x i wr => ∃ (j : Nat), j ≤ n ∧ i = .int .i64 j ∧ OwnN wr w1.heap.size o1 (inn (l.take j) m) ∧ OwnN wr w1.heap.size o2 (out_ (l.take j) m) ∧ OffN o1 o2 ∧ Below w1.heap.size w1 wr) (fun _ _ _ i _ => n - (intOf i).toNat)
  case atStart => exact ⟨0, Nat.zero_le _, rfl, ownN_nil _ _, ownN_nil _ _, .inl rfl, Below.refl _ _⟩
  case round =>
    obtain ⟨j, hj, rfl, ho1, ho2, hoff, hb⟩ := hrel
    have O1 := Lib.hid ho1
    have O2 := Lib.hid ho2
    have OF := Lib.hid hoff
    have BB := Lib.hid hb
    clear ho1 ho2 hoff hb
    obtain ⟨A0, c0, rfl⟩ := O1.out.shape
    obtain ⟨A1, c1, rfl⟩ := O2.out.shape
    have L1 := Lib.hid (show (inn (l.take j) m).length ≤ 5000 by have := inn_len (l.take j) m; have := List.length_take_le j l; omega)
    have L2 := Lib.hid (show (out_ (l.take j) m).length ≤ 5000 by have := out_len (l.take j) m; have := List.length_take_le j l; omega)
    by_cases hlt : j < n
    · obtain ⟨G, p, hE, hEc, -⟩ := (H1.out.below BB.out).elem j (by have := HL.out; omega)
      have E := Lib.hid hE
      have T := Lib.hid (take_getDG 0 (l := l) (j := j) (by have := HL.out; omega))
      have NY := Lib.hid (NL.out.at_ j)
      obtain ⟨y, hy⟩ : ∃ y, l.getD j 0 = y := ⟨_, rfl⟩
      rw [hy] at hEc T NY
      clear hE hy
      go_wp2_with (refine wpList_indexN Tryz.underlying24 rfl _ _ rfl A n cap G p j _ rfl rfl (by first | rfl | omega) E.out ?_)
      refine (among1_is y _ g b k s _ (AM.out.below BB.out) NY.out (Lib.hid rfl)).mono ?_
      rintro e w4 ⟨rfl, b4⟩
      rw [SE.out y]
      have B4 := Lib.hid (step_ BB.out b4)
      have O14 := Lib.hid (O1.out.below b4)
      have O24 := Lib.hid (O2.out.below b4)
      clear b4
      by_cases hm : m.contains y = true
      · rw [hm]
        have I1 := Lib.hid (show inn (l.take (j + 1)) m = inn (l.take j) m ++ [y] by rw [T.out, inn_snoc, if_pos hm])
        have I2 := Lib.hid (show out_ (l.take (j + 1)) m = out_ (l.take j) m by rw [T.out, out_snoc, if_pos hm])
        clear hm
        go_wp2_with (first
          | (refine wpList_num1 Tryz.underlying24 rfl _ rfl y rfl NY.out ?_; intro g6 w6 e6 N6 B6)
          | (refine wpList_app_n2 Tryz.underlying24 rfl _ _ rfl w1.heap.size _ (.slice (some ⟨g6, 0, none⟩) 1 1) _ [y] rfl rfl (O14.out.below B6.out) N6.out (by have := L1.out; simp; omega) (Nat.le_trans B4.out.size B6.out.size) _ _ (O24.out.below B6.out) OF.out ?_; intro v7 w7 O7 B7 P7 F7))
        go_roundw
        case rel => exact ⟨j + 1, by omega, by go_num, by rw [I1.out]; exact O7.out, by rw [I2.out]; exact P7.out, F7.out, (B4.out.trans (B6.out.mono B4.out.size)).trans B7.out⟩
        case measure => simp [intOf]; omega
      · have hm2 : m.contains y = false := by simpa using hm
        rw [hm2]
        have I1 := Lib.hid (show inn (l.take (j + 1)) m = inn (l.take j) m by rw [T.out, inn_snoc, if_neg hm])
        have I2 := Lib.hid (show out_ (l.take (j + 1)) m = out_ (l.take j) m ++ [y] by rw [T.out, out_snoc, if_neg hm])
        clear hm hm2
        go_wp2_with (first
          | (refine wpList_num1 Tryz.underlying24 rfl _ rfl y rfl NY.out ?_; intro g6 w6 e6 N6 B6)
          | (refine wpList_app_n2 Tryz.underlying24 rfl _ _ rfl w1.heap.size _ (.slice (some ⟨g6, 0, none⟩) 1 1) _ [y] rfl rfl (O24.out.below B6.out) N6.out (by have := L2.out; simp; omega) (Nat.le_trans B4.out.size B6.out.size) _ _ (O14.out.below B6.out) OF.out.symm ?_; intro v7 w7 O7 B7 P7 F7))
        go_roundw
        case rel => exact ⟨j + 1, by omega, by go_num, by rw [I1.out]; exact P7.out, by rw [I2.out]; exact O7.out, F7.out.symm, (B4.out.trans (B6.out.mono B4.out.size)).trans B7.out⟩
        case measure => simp [intOf]; omega
    · obtain rfl : n = j := by omega
      have HS := Lib.hid (show l.take n = l from List.take_of_length_le (by have := HL.out; omega))
      have NB1 := Lib.hid (fun (k : Nat) (e : (Value.slice A0 (inn (l.take n) m).length c0).ownBlock = some k) => O1.out.lt e)
      have NB2 := Lib.hid (fun (k : Nat) (e : (Value.slice A1 (out_ (l.take n) m).length c1).ownBlock = some k) => O2.out.lt e)
      go_wp2_with fail
      refine (ordered_is w1.heap.size _ _ _ O1.out (by have := L1.out; omega) BB.out.size).mono ?_
      rintro e w5 ⟨u5, rfl, n5, g5, e5⟩
      obtain ⟨m5, rfl⟩ := e5 A0 _ c0 rfl
      have N5 := Lib.hid n5
      have G5 := Lib.hid g5
      have O25 := Lib.hid (O2.out.kept g5 OF.out.symm)
      clear n5 g5 e5
      go_wp2_with fail
      refine (ordered_is w1.heap.size _ _ _ O25.out (by have := L2.out; omega) (Nat.le_trans BB.out.size G5.out.size)).mono ?_
      rintro e w6 ⟨u6, rfl, n6, g6, e6⟩
      obtain ⟨m6, rfl⟩ := e6 A1 _ c1 rfl
      have N6 := Lib.hid n6
      have G6 := Lib.hid g6
      clear n6 g6 e6
      go_wp2_with fail
      go_ret2
      have N56 := N5.out.grown G6.out (fun G off e e2 => by
        rcases OF.out with h | h
        · rw [e] at h; cases h
        · exact h (by rw [e] at *; exact e2))
      have hl5 := N56.len
      have hl6 := N6.out.len
      subst hl5
      subst hl6
      have hz := BB.out.size
      have B5 := BB.out.trans (b := _) (c := w5) ⟨G5.out.os, G5.out.tape, G5.out.output, G5.out.size, fun k hk => G5.out.block k (by omega) (fun e => by have := (NB1.out k e.symm).1; omega)⟩
      have B6 := B5.trans (c := w6) ⟨G6.out.os, G6.out.tape, G6.out.output, G6.out.size, fun k hk => G6.out.block k (by have := B5.size; omega) (fun e => by have := (NB2.out k e.symm).1; omega)⟩
      have BF := step_ B1.out B6
      have N6b := N6.out
      rw [HS.out] at N56 N6b
      rw [← hP.out, ← hQ.out]
      refine ⟨⟨A0, c0, A1, c1, ?_, N56, N6b⟩, BF⟩
      rw [HS.out]
      rfl
end Go.Proofs.YtnpbmihbmilkbaaGreat
namespace Go.Proofs.YtnpbmihbmilkbaaGreat
open Go.RowKit Go.Shelf
attribute [local go_sem] Oper.semAt_some
theorem wpList_storeR {ops : Array Oper} {rest : List Oper} {op : Oper} {a : Act} {w : World} {Q : Exit → Act → World → Prop} (hgd : op.guard = none) (x y : Operand) (ho : op.op = .store 23 x y) (g : Nat) (u : Value) (D : Option Addr) (m c : Nat) (hx : a.eval x = .pointer (some ⟨g, 0, none⟩)) (hy : a.eval y = .slice D m c) (hb : Blk w g 23 [u])
    (h : ∀ w', Hid (Blk w' g 23 [.slice D m c]) → Hid (Only g w w') → wpList Tryz.prog ops Q rest (a.put op.dst undef) w') : wpList Tryz.prog ops Q (op :: rest) a w := by
  refine wpList_plain hgd fun K hK => ?_
  unfold Oper.wp
  rw [exec_store22 x y ho g u D m c hx hy hb]
  exact hK _ _ (h _ (Lib.hid (hb.set 0 (.slice D m c))) (Lib.hid (Only.set g 0 w (.slice D m c))))
theorem wpList_storeF {ops : Array Oper} {rest : List Oper} {op : Oper} {a : Act} {w : World} {Q : Exit → Act → World → Prop} (hgd : op.guard = none) (x y : Operand) (ho : op.op = .store 56 x y) (g : Nat) (u : Value) (f : Fn) (fas fbs : Array Value) (hx : a.eval x = .pointer (some ⟨g, 0, none⟩)) (hy : a.eval y = .func f fas fbs) (hb : Blk w g 56 [u])
    (h : ∀ w', Hid (Blk w' g 56 [.func f fas fbs]) → Hid (Only g w w') → wpList Tryz.prog ops Q rest (a.put op.dst undef) w') : wpList Tryz.prog ops Q (op :: rest) a w := by
  refine wpList_plain hgd fun K hK => ?_
  have hc := hb.cell (i := 0) rfl
  have hf := hb.frozen 0
  have hr : (execOp a.eval op).run Tryz.prog w = .ok .skip (w.setCell ⟨g, 0, none⟩ (.func f fas fbs)) := by
    unfold execOp
    simp only [ho, hx, hy]
    simp [go_sem, run_store Tryz.prog w _ (.func f fas fbs) _ rfl, hc, hf]
  unfold Oper.wp
  rw [hr]
  exact hK _ _ (h _ (Lib.hid (hb.set 0 (.func f fas fbs))) (Lib.hid (Only.set g 0 w (.func f fas fbs))))
theorem OwnR.geS {w : World} {B : Nat} {v : Value} {l : List Am} {i : Nat} (h : OwnR w B v l) (hi : i < B) : ∀ k, v.ownBlock = some k → k ≠ i := fun k e => by have := (h.row.lt k e).1; omega
theorem OwnR.putS {w : World} {B : Nat} {v : Value} {l : List Am} {i : Nat} {o : Obj} (h : OwnR w B v l) (hn : ∀ k, v.ownBlock = some k → k ≠ i) : OwnR (w.putObj i o) B v l := h.only (only_putObj w i o) (.inr hn)
/-- A row of atoms that grows in the cell g2. -/
def AR2 (g2 : Nat) (w0 : World) (B : Nat) (l : List Am) (V : World) : Prop := ∃ D m c, Blk V g2 23 [.slice D m c] ∧ OwnR V B (.slice D m c) l ∧ Below g2 w0 V
set_option maxRecDepth 100000 in
set_option maxHeartbeats 8000000 in
theorem pick_is (seed : Int) (hU : Hid (Mx.U64 seed)) (A : Option Addr) (n cap : Nat) (a : List Am) (A2 : Option Addr) (n2 cap2 : Nat) (m2 : List Int) (L : List Am) (w : World) (h : RowV w A n cap a) (hn : n ≤ 600) (h2 : NumsAt w (.slice A2 n2 cap2) m2) (hn2 : n2 ≤ 1000) (hL : Hid (pickS (hsum seed) m2 (norm a) = L)) :
    Calls Tryz.prog 13 #[.int .u64 seed, .slice A n cap, .slice A2 n2 cap2] w (GivesR w L) := by
  have R0 := Lib.hid h
  have HA := Lib.hid hn
  have H2 := Lib.hid h2
  clear h h2
  refine (callsIn_wide (n := 10)).1 ?_
  refine callsIn_of_wp_marks Tryz.func13 rfl trivial ?_ rfl
  simp only [Tryz.ntmps13, List.size_toArray, List.length_cons, List.length_nil, Nat.reduceAdd, Nat.reduceSub, Array.replicate_succ, Array.replicate_zero, List.push_toArray, List.append_toArray, List.nil_append, List.cons_append]
  gi_wp2_with fail
  refine ⟨trivial, (callsIn_wide.2 (among_is A2 n2 cap2 m2 _ H2.out hn2)).mono ?_⟩
  rintro e w1 ⟨⟨g1, b1, k1, s1, rfl, hb1, hm1, hs1, lg1, lb1⟩, bb1⟩
  have AM := Lib.hid (show Amg w1 g1 b1 k1 s1 from ⟨hb1, hm1⟩)
  have SE := Lib.hid hs1
  have BQ := Lib.hid bb1
  clear hb1 hm1 hs1 lg1 lb1 bb1
  have Z56 := Lib.hid (blk_alloc w1 56 [.nilFunc])
  gi_wp2_with (refine in_plain wide_no rfl (by intro c h; cases h) ?_; refine wpList_storeF rfl _ _ rfl w1.heap.size .nilFunc (.func 41) #[] #[.pointer (some ⟨g1, 0, none⟩)] rfl rfl Z56.out ?_; intro X N56 O56; have BX := Lib.hid (box_below O56.out); refine in_done ?_)
  refine ⟨trivial, (callsIn_wide.2 (hashed_is seed A n cap _)).mono ?_⟩
  rintro e w2 ⟨⟨gA, gS, rfl, kA, kS, la, ls⟩, bb⟩
  have QW := Lib.hid (show Blk X w1.heap.size 56 [.func (.func 41) #[] #[.pointer (some ⟨g1, 0, none⟩)]] from N56.out)
  have XS := Lib.hid (show w1.heap.size < X.heap.size from QW.out.lt)
  have AMX := Lib.hid (AM.out.below BX.out)
  have RX := Lib.hid ((R0.out.below BQ.out).below BX.out)
  have Q1 := Lib.hid (blk_alloc X 23 [.slice none 0 0])
  have B0 := Lib.hid (new_below X (.cells #[.slice none 0 0] 23))
  have AL := Lib.hid (show g1 < X.heap.size ∧ b1 < X.heap.size from ⟨AMX.out.blk.lt, AMX.out.set.lt⟩)
  have KA := Lib.hid kA
  have KS := Lib.hid kS
  have Q2 := Lib.hid (Q1.out.below bb)
  have B1 := Lib.hid (step_ B0.out bb)
  have LA := Lib.hid (show X.heap.size + 1 ≤ gA by simpa using la)
  have LS := Lib.hid (show X.heap.size + 1 ≤ gS by simpa using ls)
  have SZ := Lib.hid (show X.heap.size + 1 ≤ w2.heap.size by have := bb.size; simpa using this)
  have ST := Lib.hid (norm_st R0.out.ok)
  have hsl : (norm a).length ≤ 600 := by have := norm_len a; have := R0.out.len; omega
  have BWX := Lib.hid (step_ BQ.out BX.out)
  clear kA kS la ls bb Q1 B0
  gi_wp2_with fail
  rename_i K0 hK0
  obtain ⟨s, hs⟩ : ∃ s, norm a = s := ⟨_, rfl⟩
  have HS := Lib.hid (show SeqGen 36 #[.pointer (some ⟨gA, 0, none⟩), .pointer (some ⟨gS, 0, none⟩)] _ (encH seed) (NxA s) (fun t => t = s) from hs ▸ hashed_seq seed hU.out gA gS A n cap a HA.out)
  rw [hs] at ST hL hsl
  clear hs
  have SL := Lib.hid hsl
  clear hsl
  have LW := Lib.hid (show w.heap.size ≤ w1.heap.size from BQ.out.size)
  refine range_gen (gf := 36) (lb := #[.pointer (some ⟨gA, 0, none⟩), .pointer (some ⟨gS, 0, none⟩)]) rfl (fun _ _ => rfl) HS.out (fun _ => rfl)
    (fun B pre V => AR2 X.heap.size X B (pickS (hsum seed) m2 pre) V ∧ Own2 (X.heap.size + 1) w2 V)
    (fun V => False)
    (fun B pre V V' h hb => by obtain ⟨⟨D, m, c, h1, h2, h3⟩, h5⟩ := h; exact ⟨⟨D, m, c, h1.below hb, h2.below hb, h3.trans (hb.mono (by have := h3.size; omega))⟩, h5.below hb⟩)
    (fun B pre V V' h9 h ho hg hB => by
      obtain ⟨⟨D, m, c, h1, h2, h3⟩, h5⟩ := h
      have := SZ.out
      exact ⟨⟨D, m, c, h1.only ho (by omega), h2.only ho (.inr (h2.geS hB)), h3.trans (ho.below (by omega) (by have := h3.size; omega))⟩, h5.only ho (by omega)⟩)
    (fun B pre V o hB h => by
      obtain ⟨⟨D, m, c, h1, h2, h3⟩, h5⟩ := h
      have := SZ.out
      exact ⟨⟨D, m, c, blk_put h1 (by omega), h2.putS (h2.geS (by omega)), below_put h3 (by omega)⟩, h5.put (by omega)⟩)
    (fun V o h => h.elim)
    (fun V V' g h _ _ => h.elim)
    (fun B pre V h => by obtain ⟨⟨D, m, c, h1, h2, h3⟩, h5⟩ := h; exact ⟨⟨h5.blk KA.out LA.out, RX.out.below h3⟩, h5.blk KS.out LS.out⟩)
    (fun V hb => ⟨⟨KA.out.below hb, RX.out.below (B1.out.trans (hb.mono (by have := SZ.out; omega)))⟩, KS.out.below hb⟩)
    (fun B V hB hV hb => ⟨⟨none, 0, 0, Q2.out.below hb, ownR_nil _ _, B1.out.trans (hb.mono (by have := SZ.out; omega))⟩, ⟨fun k _ h2 => hb.block k h2, hb.size⟩⟩)
    (fun B pre x a' V => (x.Ok ∧ pre.length < 600) ∧ ∃ g4, a' = { tmps := #[.int .u64 seed, .slice A n cap, .slice A2 n2 cap2, undef, undef, undef, .slice none 0 0, .pointer (some ⟨w1.heap.size, 0, none⟩), .pointer (some ⟨X.heap.size, 0, none⟩), .int .u64 (hsum seed x), .pointer (some ⟨g4, 0, none⟩), .slice A2 n2 cap2, .func (.func 41) #[] #[.pointer (some ⟨g1, 0, none⟩)], .int .u64 seed, .slice A n cap, .func (.func 36) #[] #[.pointer (some ⟨gA, 0, none⟩), .pointer (some ⟨gS, 0, none⟩)], .int .u64 (hsum seed x), .agg x.cells.toArray, undef, undef, undef, undef, undef, undef, undef, undef], defers := [] } ∧ B ≤ g4 ∧ Blk V g4 50 x.cells ∧ AR2 X.heap.size X B (pickS (hsum seed) m2 pre) V ∧ Own2 (X.heap.size + 1) w2 V ∧ B ≤ V.heap.size)
    (fun B pre x a' V o hB h => by
      obtain ⟨hx, g4, e, l4, k4, ⟨D, m, c, h1, h2, h3⟩, h5, hv⟩ := h
      have := SZ.out
      exact ⟨hx, g4, e, l4, blk_put k4 (by omega), ⟨D, m, c, blk_put h1 (by omega), h2.putS (h2.geS (by omega)), below_put h3 (by omega)⟩, h5.put (by omega), by simpa using hv⟩)
    ?assign ?body ?done ?stop
  case assign =>
    intro l B pre x W K hnx hi hB hB2 hlt hK
    have XO := Lib.hid (nxA_ok hnx ST.out SL.out)
    have HI := Lib.hid hi
    have Z := Lib.hid (blk_alloc W 50 azero.cells)
    have hz := zero32
    clear hi hnx
    simp only [encH, List.zip_toArray, List.zip_cons_cons, List.zip_nil_right, List.foldl_toArray', List.foldl_cons, List.foldl_nil, List.size_toArray, List.length_cons, List.length_nil, List.setIfInBounds_toArray, List.set_cons_zero, List.set_cons_succ]
    gi_wp2_with (refine in_plain (wide_in l) rfl (by intro c h; cases h) ?_; refine wpList_store_am rfl _ _ rfl W.heap.size azero x rfl rfl Z.out azero_ok XO.out.1 ?_; intro V1 N1 O1; have BV := Lib.hid (box_below O1.out); refine in_done ?_)
    obtain ⟨⟨D, m, c, h1, h2, h3⟩, h5⟩ := HI.out
    exact hK _ _ BV.out ⟨XO.out, _, rfl, hB2, N1.out, ⟨D, m, c, h1.below BV.out, h2.below BV.out, h3.trans (BV.out.mono (by have := h3.size; omega))⟩, h5.below BV.out, Nat.le_trans hB2 BV.out.size⟩
  case body =>
    intro l B pre x a' W hnx hax hB hB2 hlt
    obtain ⟨hx, g4, rfl, l4, k4, ⟨D, m, c, h1, h2, h3⟩, h5, hv⟩ := hax
    have XO := Lib.hid hx
    have XU := Lib.hid (hsum_U seed x)
    have H1 := Lib.hid h1
    have HR := Lib.hid h2
    have H3 := Lib.hid h3
    have H5 := Lib.hid h5
    have G4 := Lib.hid k4
    have LB := Lib.hid (show X.heap.size + 3 ≤ B by have := SZ.out; omega)
    have LW2 := Lib.hid (show w2.heap.size + 2 ≤ B from hB)
    have LB2 := Lib.hid hB2
    have PL := Lib.hid (show (pickS (hsum seed) m2 pre).length ≤ 5000 by have := pickS_len (hsum seed) m2 pre; omega)
    have PS := Lib.hid (pickS_snoc (hsum seed) m2 pre x)
    have AMW := Lib.hid (show Amg W g1 b1 k1 s1 from AMX.out.upto h3 AL.out.1 AL.out.2)
    have QWW := Lib.hid (show Blk W w1.heap.size 56 [.func (.func 41) #[] #[.pointer (some ⟨g1, 0, none⟩)]] from (h3.block w1.heap.size XS.out).trans QW.out)
    have cw := QWW.out.cell (i := 0) rfl
    have c0 := h1.cell (i := 0) rfl
    clear hx h1 h2 h3 h5 hB hB2 k4 hv
    cases hp : m2.contains (hsum seed x) with
    | false =>
      have PN := Lib.hid (show pickS (hsum seed) m2 (pre ++ [x]) = pickS (hsum seed) m2 pre by rw [PS.out, hp]; exact if_neg Bool.false_ne_true)
      have HP := Lib.hid hp
      clear hp
      gi_wp2_with fail
      refine ⟨trivial, (calls_in (wide_in l) (among1_is (hsum seed x) false g1 b1 k1 s1 W AMW.out XU.out (Lib.hid (by rw [SE.out, HP.out])))).mono ?_⟩
      rintro e W3 ⟨rfl, b3⟩
      have B3 := Lib.hid b3
      clear b3
      gi_wp2_with fail
      rw [PN.out]
      exact ⟨KeepL.below B3.out hlt, fun k _ h2 => B3.out.block k (Nat.lt_of_lt_of_le h2 LB2.out), ⟨D, m, c, H1.out.below B3.out, HR.out.below B3.out, H3.out.trans (B3.out.mono (by have := H3.out.size; omega))⟩, H5.out.below B3.out⟩
    | true =>
      have PN := Lib.hid (show pickS (hsum seed) m2 (pre ++ [x]) = pickS (hsum seed) m2 pre ++ [x] by rw [PS.out, if_pos hp])
      have HP := Lib.hid hp
      clear hp
      gi_wp2_with fail
      refine ⟨trivial, (calls_in (wide_in l) (among1_is (hsum seed x) true g1 b1 k1 s1 W AMW.out XU.out (Lib.hid (by rw [SE.out, HP.out])))).mono ?_⟩
      rintro e W3 ⟨rfl, b3⟩
      have B3 := Lib.hid b3
      have c1 := (H1.out.below b3).cell (i := 0) rfl
      have G43 := Lib.hid (G4.out.below b3)
      clear b3 c0
      gi_wp2_with (first
        | (refine in_plain (wide_in l) rfl (by intro c h; cases h) ?_; refine wpList_load_am rfl _ rfl g4 x rfl G43.out XO.out.1 ?_; refine in_done ?_)
        | (refine in_plain (wide_in l) rfl (by intro c h; cases h) ?_; refine wpList_one46 rfl _ rfl x rfl XO.out.1 ?_; intro g6 w6 e6 N6 B6; refine in_done ?_)
        | (refine in_plain (wide_in l) rfl (by intro c h; cases h) ?_; refine wpList_app rfl _ _ rfl B (.slice D m c) (pickS (hsum seed) m2 pre) x g6 rfl rfl ((HR.out.below B3.out).below B6.out) XO.out.1 N6.out PL.out (Nat.le_trans LB2.out (Nat.le_trans B3.out.size B6.out.size)) ?_; intro D7 m7 c7 w7 e7 O7 B7 G7; refine in_done ?_)
        | (refine in_plain (wide_in l) rfl (by intro c h; cases h) ?_; refine wpList_storeR rfl _ _ rfl X.heap.size (.slice D m c) D7 m7 c7 rfl rfl (((H1.out.below B3.out).below B6.out).upto B7.out (by have := LB.out; omega)) ?_; intro w8 N8 O8; refine in_done ?_))
      have BW := Lib.hid (show Below B W w7 from ((B3.out.trans (B6.out.mono B3.out.size)).mono LB2.out).trans B7.out)
      have hz1 := BW.out.size
      have hz2 := LB2.out
      have hz3 := LB.out
      have hz4 := LW2.out
      rw [PN.out]
      refine ⟨?_, fun k hk1 hk2 => ?_, ⟨D7, m7, c7, N8.out, ?_, ?_⟩, ?_⟩
      · exact (KeepL.below BW.out (by have := SZ.out; omega)).trans (KeepL.only O8.out (by have := SZ.out; omega) (by have := SZ.out; omega) (by have := SZ.out; omega))
      · exact (O8.out.block k (by omega) (by have := SZ.out; omega)).trans (BW.out.block k hk2)
      · exact O7.out.only O8.out (.inr (O7.out.geS (by omega)))
      · exact (H3.out.trans (BW.out.mono (by omega))).trans (O8.out.below (Nat.le_refl _) (by omega))
      · exact Own2.low ⟨fun k h1 h2 => (BW.out.block k (by omega)).trans (H5.out.same k h1 h2), Nat.le_trans H5.out.size (by have := BW.out.size; omega)⟩ O8.out (by omega)
  case done =>
    intro D B t W hD hD2 hB hf hi hd
    subst hf
    obtain ⟨⟨D1, m1, c1, h1, h2, h3⟩, h5⟩ := hi
    have OW := Lib.hid h2
    have H3 := Lib.hid h3
    have c0 := h1.cell (i := 0) rfl
    have HD := Lib.hid hd
    have LB := Lib.hid (show X.heap.size + 3 ≤ B by have := SZ.out; omega)
    have LD := Lib.hid (show X.heap.size + 1 ≤ D ∧ D < B by have := SZ.out; omega)
    have LX := Lib.hid (show w.heap.size ≤ X.heap.size by have := XS.out; have := LW.out; omega)
    have BF := Lib.hid (show Below w.heap.size w W from BWX.out.trans (h3.mono LX.out))
    clear hd h1 h2 h3 h5
    show K0 _ _
    refine hK0 _ _ ?_
    gi_wp2_with fail
    refine marks_ret D rfl HD.out (results_tmp rfl _ _ _) ?_
    rw [hL.out] at OW
    have key : ∀ o, RowV (W.putObj D o) D1 m1 c1 L := fun o => by
      obtain ⟨A9, n9, c9, e9, r9⟩ := (OW.out.putS (i := D) (o := o) (OW.out.geS (by have := LD.out; omega))).rowAt
      cases e9
      exact r9
    exact ⟨⟨D1, m1, c1, rfl, key _⟩, below_put BF.out (by have := LD.out; have := LX.out; omega)⟩
  case stop =>
    intro D W hD hx hd
    exact hx.elim
end Go.Proofs.YtnpbmihbmilkbaaGreat
