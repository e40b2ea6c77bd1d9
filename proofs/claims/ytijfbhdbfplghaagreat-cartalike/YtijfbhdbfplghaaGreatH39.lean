/- slices.Sort, slices.AppendSeq, slices.Collect and slices.Sorted at uint16. Written by wip/tools/srtW_r17.py. maps.Keys at carts, as an iterator: the keys of a map of groups, each once, in any order; and their sorted row. Slices of vectors in memory. Slices of structs or arrays of any one type: what they hold, elements, slices of one's own, appends. Ranges over iterators that hand over any values and may hold memory of their own between the rounds. Rows of keys and of names: what they hold, rows of one's own; the contracts of AppendSeq and Collect of slices at keys. -/
import Derived.Test.YtijfbhdbfplghaaGreatH38
import Derived.Test.YtijfbhdbfplghaaGreatH25
import Derived.Test.YtijfbhdbfplghaaGreatH28
import Derived.Test.YtijfbhdbfplghaaGreatH11
namespace Go.Proofs.YtijfbhdbfplghaaGreat
open Go.RowKit Go.Shelf
attribute [local go_sem] Oper.semAt_some
theorem exec_convu {o : Oper} {a : Act} {w : World} (x : Operand) (ho : o.op = .convert 3 123 x) (r : Nat) (hx : a.eval x = .int .i64 (r : Int)) (hr : r ≤ 100000) :
    (execOp a.eval o).run Tryz.prog w = .ok (.value (.int .u64 (r : Int))) w := by
  have H := Lib.hid (show IntKind.u64.wrap (r : Int) = (r : Int) by
    show ((r : Int) % 18446744073709551616) = _
    omega)
  unfold execOp
  simp only [ho, hx]
  go_simp
  try exact H.out
set_option maxRecDepth 100000 in
theorem insert0_is (w : World) : Calls Tryz.prog 92 #[.slice none 0 0, .int .i64 0, .int .i64 0] w fun e w' => e = .returned (.tuple #[]) ∧ w' = w := by
  go_enter Tryz.func92, Tryz.ntmps92
  go_wp2_with fail
  refine wp_loop_rounds 1 ?_
  rw [rounds_succ]
  go_wp2_with fail
  go_end0
  exact ⟨rfl, rfl⟩
set_option maxRecDepth 100000 in
theorem pdq0_is (lim : Nat) (w : World) : Calls Tryz.prog 78 #[.slice none 0 0, .int .i64 0, .int .i64 0, .int .i64 (lim : Int)] w fun e w' => e = .returned (.tuple #[]) ∧ w' = w := by
  go_enter Tryz.func78, Tryz.ntmps78
  go_wp2_with fail
  refine wp_loop_rounds 1 ?_
  rw [rounds_succ]
  go_wp2_with fail
  refine (insert0_is _).mono ?_
  rintro e w1 ⟨rfl, rfl⟩
  go_wp2_with fail
  refine bodyPost_ret (results_none rfl _ _ _) rfl ?_
  exact ⟨rfl, rfl⟩
set_option maxRecDepth 100000 in
theorem sort0_is (w : World) : Calls Tryz.prog 60 #[.slice none 0 0] w fun e w' => e = .returned (.tuple #[]) ∧ w' = w := by
  go_enter Tryz.func60, Tryz.ntmps60
  go_wp2_with fail
  refine (len_is 0 _ (by omega)).mono ?_
  rintro e w1 ⟨⟨k, rfl, hk⟩, rfl⟩
  go_wp2_with fail
  refine (pdq0_is k _).mono ?_
  rintro e w1 ⟨rfl, rfl⟩
  go_wp2_with fail
  go_end0
  exact ⟨rfl, rfl⟩
set_option maxRecDepth 100000 in
theorem sort1_is (B g n cap : Nat) (l : List Int) (w : World) (h : OwnN w B (.slice (some ⟨g, 0, none⟩) n cap) l) (hn : n ≤ 10000) (hg : g < w.heap.size) :
    Calls Tryz.prog 60 #[(.slice (some ⟨g, 0, none⟩) n cap)] w fun e w' => e = .returned (.tuple #[]) ∧ ∃ m, OwnN w' B (.slice (some ⟨g, 0, none⟩) n cap) m ∧ m.Perm l ∧ Sd m 0 n ∧ Only g w w' := by
  have H := Lib.hid h
  have HL := Lib.hid h.len
  clear h
  go_enter Tryz.func60, Tryz.ntmps60
  go_wp2_with (refine wpList_val rfl _ (exec_convu _ rfl n rfl (by omega)) ?_)
  refine (len_is n _ hn).mono ?_
  rintro e w1 ⟨⟨k, rfl, hk⟩, rfl⟩
  go_wp2_with fail
  refine (pdq_all n B g n cap 0 n k l _ (by omega) H.out (Nat.le_refl _) hn (Nat.zero_le _) hk (fun h => absurd h (Nat.lt_irrefl _)) hg).mono ?_
  rintro e w1 ⟨rfl, o1, m, d1, p1, s1⟩
  have D1 := Lib.hid d1
  have P1 := Lib.hid p1
  have S1 := Lib.hid s1
  have O1 := Lib.hid o1
  clear d1 p1 s1 o1
  go_wp2_with fail
  go_end0
  exact ⟨rfl, m, D1.out, P1.out.perm, S1.out, O1.out⟩
/-- Sort: the row that the value owns, sorted in place. -/
theorem sort16_is (B : Nat) (v : Value) (l : List Int) (w : World) (h : OwnN w B v l) (hn : l.length ≤ 10000) (hB : B ≤ w.heap.size) :
    Calls Tryz.prog 60 #[v] w fun e w' => e = .returned (.tuple #[]) ∧ ∃ m, OwnN w' B v m ∧ m.Perm l ∧ Sd m 0 l.length ∧ Below B w w' := by
  rcases h.row.2 with ⟨hv, h0⟩ | ⟨g, cap, cur, hv, hg, hh, _⟩
  · subst hv
    refine (sort0_is w).mono ?_
    rintro e w1 ⟨rfl, rfl⟩
    exact ⟨rfl, l, h, List.Perm.refl _, sd_small (by omega), Below.refl _ _⟩
  · subst hv
    refine (sort1_is B g l.length cap l w h hn (Array.getElem?_eq_some_iff.1 hh).1).mono ?_
    rintro e w1 ⟨rfl, m, d1, p1, s1, o1⟩
    exact ⟨rfl, m, d1, p1, s1, o1.below hg hB⟩
def encI (x : Int) : Array Value := #[.int .u16 x]
/-- What a round of AppendSeq finds and leaves. -/
def AI2 (g2 : Nat) (w0 : World) (M B : Nat) (pre : List Int) (V : World) : Prop := ∃ D m c, Blk V g2 34 [.slice D m c] ∧ OwnN V B (.slice D m c) pre ∧ Below g2 w0 V ∧ pre.length ≤ M
def GivesI (w : World) (Fin : List Int → Prop) (e : Ending) (w' : World) : Prop := (∃ v s, e = .returned v ∧ Fin s ∧ OwnN w' w.heap.size v s) ∧ Below w.heap.size w w'
theorem exec_storeS {o : Oper} {a : Act} {w : World} (x y : Operand) (ho : o.op = .store 34 x y) (g : Nat) (u : Value) (D : Option Addr) (m c : Nat) (hx : a.eval x = .pointer (some ⟨g, 0, none⟩)) (hy : a.eval y = .slice D m c) (hb : Blk w g 34 [u]) :
    (execOp a.eval o).run Tryz.prog w = .ok .skip (w.setCell ⟨g, 0, none⟩ (.slice D m c)) := by
  have hc := hb.cell (i := 0) rfl
  have hf := hb.frozen 0
  unfold execOp
  simp only [ho, hx, hy]
  simp [go_sem, hc, hf]
theorem wpList_storeS {ops : Array Oper} {rest : List Oper} {op : Oper} {a : Act} {w : World} {Q : Exit → Act → World → Prop} (hgd : op.guard = none) (x y : Operand) (ho : op.op = .store 34 x y) (g : Nat) (u : Value) (D : Option Addr) (m c : Nat) (hx : a.eval x = .pointer (some ⟨g, 0, none⟩)) (hy : a.eval y = .slice D m c) (hb : Blk w g 34 [u])
    (h : ∀ w', Hid (Blk w' g 34 [.slice D m c]) → Hid (Only g w w') → wpList Tryz.prog ops Q rest (a.put op.dst undef) w') : wpList Tryz.prog ops Q (op :: rest) a w := by
  refine wpList_plain hgd fun K hK => ?_
  unfold Oper.wp
  rw [exec_storeS x y ho g u D m c hx hy hb]
  exact hK _ _ (h _ (Lib.hid (hb.set 0 (.slice D m c))) (Lib.hid (Only.set g 0 w (.slice D m c))))
theorem OwnN.geS {w : World} {B : Nat} {v : Value} {l : List Int} {i : Nat} (h : OwnN w B v l) (hi : i < B) : ∀ k, v.ownBlock = some k → k ≠ i := fun k e => by have := (h.row.lt k e).1; omega
theorem OwnN.putS {w : World} {B : Nat} {v : Value} {l : List Int} {i : Nat} {o : Obj} (h : OwnN w B v l) (hn : ∀ k, v.ownBlock = some k → k ≠ i) : OwnN (w.putObj i o) B v l := h.only (only_putObj w i o) hn
set_option maxRecDepth 100000 in
set_option maxHeartbeats 4000000 in
theorem appendI_is (gf : Nat) (lb : Array Value) (N : World → Prop) (Nx : List Int → Int → Prop) (Fin : List Int → Prop) (M : Nat) (w : World) (eg : ∀ args w, (callFunc gf args).run Tryz.prog w = .ok (.enter gf args) w)
    (hseq : SeqGen gf lb N encI Nx Fin) (hN : ∀ V, Below w.heap.size w V → N V) (hM : M ≤ 4000) (hNx : ∀ pre x, Nx pre x → (0 ≤ x ∧ x < 65536) ∧ pre.length < M) :
    Calls Tryz.prog 77 #[.slice none 0 0, .func (.func gf) #[] lb] w (GivesI w fun s => Fin s ∧ s.length ≤ M) := by
  have Q1 := Lib.hid (blk_alloc w 34 [.slice none 0 0])
  have B0 := Lib.hid (new_below w (.cells #[.slice none 0 0] 34))
  refine (callsIn_wide (n := 10)).1 ?_
  refine callsIn_of_wp_marks Tryz.func77 rfl trivial ?_ rfl
  simp only [Tryz.ntmps77, List.size_toArray, List.length_cons, List.length_nil, Nat.reduceAdd, Nat.reduceSub, Array.replicate_succ, Array.replicate_zero, List.push_toArray, List.append_toArray, List.nil_append, List.cons_append]
  gi_wp2_with fail
  rename_i K0 hK0
  have HS := Lib.hid hseq
  have HN := Lib.hid hN
  have HX := Lib.hid hNx
  clear hseq hN hNx
  refine range_gen (gf := gf) (lb := lb) rfl eg HS.out (fun _ => rfl)
    (fun B pre V => AI2 w.heap.size w M B pre V)
    (fun V => False)
    (fun B pre V V' h hb => by obtain ⟨D, m, c, h1, h2, h3, h4⟩ := h; exact ⟨D, m, c, h1.below hb, h2.below hb, h3.trans (hb.mono h3.size), h4⟩)
    (fun B pre V V' h9 h ho hg hB => by
      obtain ⟨D, m, c, h1, h2, h3, h4⟩ := h
      simp at hg
      exact ⟨D, m, c, h1.only ho (by omega), h2.only ho (h2.geS hB), h3.trans (ho.below (by omega) h3.size), h4⟩)
    (fun B pre V o hB h => by
      obtain ⟨D, m, c, h1, h2, h3, h4⟩ := h
      simp at hB ⊢
      exact ⟨D, m, c, blk_put h1 (by omega), h2.putS (h2.geS (by omega)), below_put h3 (by omega), h4⟩)
    (fun V o h => h.elim)
    (fun V V' g h _ _ => h.elim)
    (fun B pre V h => by obtain ⟨D, m, c, h1, h2, h3, h4⟩ := h; exact HN.out V h3)
    (fun V hb => HN.out V (step_ B0.out hb))
    (fun B V hB hV hb => ⟨none, 0, 0, Q1.out.below hb, ownN_nil _ _, step_ B0.out hb, Nat.zero_le _⟩)
    (fun B pre x a' V => ((0 ≤ x ∧ x < 65536) ∧ pre.length < M) ∧ a' = { tmps := #[.slice none 0 0, .func (.func gf) #[] lb, .pointer (some ⟨w.heap.size, 0, none⟩), undef, .slice none 0 0, .int .u16 x, .func (.func gf) #[] lb, .int .u16 x, undef, undef, undef, undef, undef], defers := [] } ∧ AI2 w.heap.size w M B pre V)
    (fun B pre x a' V o hB h => by
      obtain ⟨hx, e, D, m, c, h1, h2, h3, h4⟩ := h
      simp at hB ⊢
      exact ⟨hx, e, D, m, c, blk_put h1 (by omega), h2.putS (h2.geS (by omega)), below_put h3 (by omega), h4⟩)
    ?assign ?body ?done ?stop
  case assign =>
    intro l B pre x W K hnx hi hB hB2 hlt hK
    have XO := Lib.hid (HX.out _ _ hnx)
    have HI := Lib.hid hi
    clear hi hnx
    simp only [encI, List.zip_toArray, List.zip_cons_cons, List.zip_nil_right, List.foldl_toArray', List.foldl_cons, List.foldl_nil, List.size_toArray, List.length_cons, List.length_nil, List.setIfInBounds_toArray, List.set_cons_zero, List.set_cons_succ]
    gi_wp2_with fail
    obtain ⟨D, m, c, h1, h2, h3, h4⟩ := HI.out
    exact hK _ _ (Below.refl _ _) ⟨XO.out, rfl, D, m, c, h1, h2, h3, h4⟩
  case body =>
    intro l B pre x a' W hnx hax hB hB2 hlt
    obtain ⟨hx, rfl, D, m, c, h1, h2, h3, h4⟩ := hax
    have XO := Lib.hid hx
    have H1 := Lib.hid h1
    have H2 := Lib.hid h2
    have H3 := Lib.hid h3
    have LB := Lib.hid (show w.heap.size + 3 ≤ B by simpa using hB)
    have LB2 := Lib.hid hB2
    have PL := Lib.hid (show pre.length + [x].length ≤ 30000 by simp; omega)
    have c0 := h1.cell (i := 0) rfl
    clear hx h1 h2 h3 hB hB2 h4
    gi_wp2_with (first
      | (refine in_plain (wide_in l) rfl (by intro c h; cases h) ?_; refine wpList_num1 Tryz.underlying34 rfl _ rfl x rfl XO.out.1 ?_; intro g6 w6 e6 N6 B6; refine in_done ?_)
      | (refine in_plain (wide_in l) rfl (by intro c h; cases h) ?_; refine wpList_app_n Tryz.underlying34 rfl _ _ rfl B (.slice D m c) (.slice (some ⟨g6, 0, none⟩) 1 1) pre [x] rfl rfl (H2.out.below B6.out) N6.out PL.out (Nat.le_trans LB2.out B6.out.size) ?_; intro D7 m7 c7 w7 e7 O7 B7 G7; refine in_done ?_)
      | (refine in_plain (wide_in l) rfl (by intro c h; cases h) ?_; refine wpList_storeS rfl _ _ rfl w.heap.size (.slice D m c) D7 m7 c7 rfl rfl ((H1.out.below B6.out).upto B7.out (by have := LB.out; omega)) ?_; intro w8 N8 O8; refine in_done ?_))
    have BW := Lib.hid (show Below B W w7 from (B6.out.mono LB2.out).trans B7.out)
    refine ⟨?_, fun k hk1 hk2 => ?_, D7, m7, c7, N8.out, ?_, ?_, ?_⟩
    · exact (KeepL.below BW.out (by have := LB.out; omega)).trans (KeepL.only O8.out (by omega) (by omega) (by have := BW.out.size; have := LB2.out; have := LB.out; omega))
    · exact (O8.out.block k (by have := BW.out.size; have := LB2.out; omega) (by omega)).trans (BW.out.block k hk2)
    · exact O7.out.only O8.out (O7.out.geS (by have := LB.out; omega))
    · exact (H3.out.trans (BW.out.mono (by have := LB.out; omega))).trans (O8.out.below (Nat.le_refl _) (by have := BW.out.size; have := LB2.out; have := LB.out; omega))
    · rw [List.length_append, List.length_singleton]; have := XO.out.2; omega
  case done =>
    intro D B s W hD hD2 hB hf hi hd
    obtain ⟨D1, m1, c1, h1, h2, h3, h4⟩ := hi
    have F := Lib.hid hf
    have OW := Lib.hid h2
    have H3 := Lib.hid h3
    have HL4 := Lib.hid h4
    have c0 := h1.cell (i := 0) rfl
    have HD := Lib.hid hd
    have LB := Lib.hid (show w.heap.size + 3 ≤ B by simpa using hB)
    have LD := Lib.hid (show w.heap.size + 1 ≤ D ∧ D < w.heap.size + 3 by simpa using And.intro hD hD2)
    clear hd h1 h2 h3 hf h4
    show K0 _ _
    refine hK0 _ _ ?_
    gi_wp2_with fail
    refine marks_ret D rfl HD.out (results_tmp rfl _ _ _) ?_
    exact ⟨⟨_, s, rfl, ⟨F.out, HL4.out⟩, (OW.out.down (by have := LB.out; omega)).putS (OW.out.geS (by have := LB.out; have := LD.out; omega))⟩, below_put H3.out (by have := LD.out; omega)⟩
  case stop =>
    intro D W hD hx hd
    exact hx.elim
set_option maxRecDepth 100000 in
/-- Sorted over an iterator: the values, sorted, in a row of the call's own. -/
theorem sorted16_is (gf : Nat) (lb : Array Value) (N : World → Prop) (Nx : List Int → Int → Prop) (Fin : List Int → Prop) (M : Nat) (w : World) (eg : ∀ args w, (callFunc gf args).run Tryz.prog w = .ok (.enter gf args) w)
    (hseq : SeqGen gf lb N encI Nx Fin) (hN : ∀ V, Below w.heap.size w V → N V) (hM : M ≤ 4000) (hNx : ∀ pre x, Nx pre x → (0 ≤ x ∧ x < 65536) ∧ pre.length < M) :
    Calls Tryz.prog 37 #[.func (.func gf) #[] lb] w (GivesI w fun m => ∃ s, Fin s ∧ m.Perm s ∧ Sd m 0 m.length) := by
  have AP := Lib.hid (appendI_is gf lb N Nx Fin M w eg hseq hN hM hNx)
  clear hseq hN hNx eg
  go_enter Tryz.func37, Tryz.ntmps37
  go_wp2_with fail
  refine (show Calls Tryz.prog 59 #[.func (.func gf) #[] lb] w (GivesI w fun s => Fin s ∧ s.length ≤ M) by
    go_enter Tryz.func59, Tryz.ntmps59
    go_wp2_with fail
    refine AP.out.mono ?_
    rintro e w1 ⟨⟨v, s, rfl, hf, ho⟩, hb⟩
    have HF := Lib.hid hf
    have HO := Lib.hid ho
    have HB := Lib.hid hb
    clear hf ho hb
    go_wp2_with fail
    go_ret
    exact ⟨⟨v, s, rfl, HF.out, HO.out⟩, HB.out⟩).mono ?_
  rintro e w1 ⟨⟨v, s, rfl, hf, ho⟩, hb⟩
  have HF := Lib.hid hf
  have HO := Lib.hid ho
  have HB := Lib.hid hb
  clear hf ho hb
  go_wp2_with fail
  refine (sort16_is w.heap.size v s w1 HO.out (by have := HF.out.2; omega) HB.out.size).mono ?_
  rintro e w2 ⟨rfl, m, d2, p2, s2, b2⟩
  have D2 := Lib.hid d2
  have P2 := Lib.hid p2
  have S2 := Lib.hid s2
  have B2 := Lib.hid b2
  clear d2 p2 s2 b2
  go_wp2_with fail
  go_ret
  exact ⟨⟨v, m, rfl, ⟨s, HF.out.1, P2.out, by rw [P2.out.length_eq]; exact S2.out⟩, D2.out⟩, HB.out.trans B2.out⟩
end Go.Proofs.YtijfbhdbfplghaaGreat
namespace Go.Proofs.YtijfbhdbfplghaaGreat
open Go.RowKit Go.Shelf Go.Maps
attribute [local go_sem] Oper.semAt_some
section
variable {K : Type} [Inhabited (MKd K)]
theorem MapG.same {w w' : World} {b n : Nat} {f : K → Option Value} (h : MapG w b n f) (hb : w'.heap[b]? = w.heap[b]?) : MapG w' b n f := by
  obtain ⟨D, ⟨es, clock, e, r⟩, h2⟩ := h.own
  exact ⟨h.ok, D, ⟨es, clock, hb.trans e, r⟩, h2⟩
theorem RangeG.same {w w' : World} {b r n : Nat} {f g : K → Option Value} {cnt : Nat} (h : RangeG w b r n f g cnt) (hb : w'.heap[b]? = w.heap[b]?) (hr : w'.heap[r]? = w.heap[r]?) : RangeG w' b r n f g cnt := by
  obtain ⟨D, left, ⟨es, clock, since, seen, c0, e1, e2, e3, e4, e5, e6⟩, h2⟩ := h.own
  exact ⟨h.ok, h.sub, D, left, ⟨es, clock, since, seen, c0, hb.trans e1, e2, e3, e4, hr.trans e5, e6⟩, h2⟩
end
section
variable {K : Type}
/-- What a range over the keys of f has handed over, while those of g are to come. -/
structure KG (f g : K → Option Value) (out : List K) : Prop where
  all : ∀ k, f k ≠ none ↔ (g k ≠ none ∨ k ∈ out)
  gone : ∀ k ∈ out, g k = none
  dist : out.Nodup
theorem KG.start (f : K → Option Value) : KG f f [] := ⟨fun _ => by simp, fun _ h => (by cases h), List.nodup_nil⟩
theorem KG.step [DecidableEq K] {f g : K → Option Value} {out : List K} (h : KG f g out) {k : K} {v : Value} (hg : g k = some v) : KG f (delG g k) (out ++ [k]) := by
  refine ⟨fun x => ?_, fun x hx => ?_, ?_⟩
  · rw [h.all]
    unfold delG
    by_cases e : x = k
    · subst e; simp [hg]
    · simp [e]
  · unfold delG
    rcases List.mem_append.1 hx with hx | hx
    · rw [h.gone x hx]; split <;> rfl
    · rw [if_pos (List.mem_singleton.1 hx)]
  · rw [List.nodup_append]
    refine ⟨h.dist, by simp, fun a ha b hb e => ?_⟩
    rw [List.mem_singleton.1 hb] at e
    rw [e] at ha
    rw [h.gone k ha] at hg
    cases hg
end
def NxG (f : Int → Option Value) (n : Nat) (pre : List Int) (x : Int) : Prop := (0 ≤ x ∧ x < 65536) ∧ f x ≠ none ∧ pre.length < n
def FinG (f : Int → Option Value) (n : Nat) (s : List Int) : Prop := s.Nodup ∧ (∀ k, k ∈ s ↔ f k ≠ none) ∧ s.length ≤ n
set_option maxRecDepth 100000 in
set_option maxHeartbeats 4000000 in
theorem keys_seq (g b n : Nat) (f : Int → Option Value) (W0 : World) (hm : MapG W0 b n f) : SeqGen 61 #[.pointer (some ⟨g, 0, none⟩)] (fun V => Blk V g 70 [.map (some b)] ∧ V.heap[b]? = W0.heap[b]?) encI (NxG f n) (FinG f n) := by
  intro l J X W hJb hJo hJn hXo hY hN0 h0
  have c0 := hN0.1.cell (i := 0) rfl
  have HM := Lib.hid (hm.same hN0.2)
  have JO := Lib.hid hJo
  have JN := Lib.hid hJn
  have HY := Lib.hid hY
  have H0 := Lib.hid h0
  have BW := Lib.hid (show W.heap[b]? = W0.heap[b]? from hN0.2)
  clear hJb hJo hJn hXo hY hN0 h0 hm
  refine (callsIn_wide (n := 10)).1 ?_
  refine callsIn_of_wp Tryz.func61 rfl trivial ?_ rfl
  simp only [Tryz.ntmps61, List.size_toArray, List.length_cons, List.length_nil, Nat.reduceAdd, Nat.reduceSub, Array.replicate_succ, Array.replicate_zero, List.push_toArray, List.append_toArray, List.nil_append, List.cons_append]
  gi_wp2_with (first
    | (refine in_plain wide_no rfl (by intro c h; cases h) ?_; refine wpList_rangeG rfl _ rfl b n f rfl HM.out ?_; intro r W1 cnt er R1 ec B1; refine in_done ?_))
  have CN := Lib.hid (show cnt ≤ n by rw [ec.out]; exact HM.out.msize_le)
  have RS := Lib.hid (show r < W1.heap.size from R1.out.lt)
  have RG := Lib.hid (show W.heap.size ≤ r from Nat.le_of_eq er.out.symm)
  have BB := Lib.hid (show W.heap.size ≤ W1.heap.size from B1.out.size)
  have BM := Lib.hid (show W1.heap[b]? = W0.heap[b]? from (B1.out.block b HM.out.lt).trans BW.out)
  have J0 := Lib.hid (show J W1.heap.size [] W1 from H0.out _ _ BB.out (Nat.le_refl _) B1.out)
  clear er ec
  gi_loopw [3] (fun u wr => ∃ (gg : Int → Option Value) (cnt : Nat) (out : List Int), RangeG wr b r n f gg cnt ∧ KG f gg out ∧ out.length + cnt ≤ n ∧ J W1.heap.size out wr ∧ W1.heap.size ≤ wr.heap.size) (fun _ wr => wr.rangeLeft b r)
  case atStart => exact ⟨f, cnt, [], R1.out, KG.start f, by have := CN.out; simpa using this, J0.out, Nat.le_refl _⟩
  case round =>
    obtain ⟨gg, cnt, out, hr, hc, hle, hj, hsz⟩ := hrel
    have RR := Lib.hid hr
    have CC := Lib.hid hc
    have LE := Lib.hid hle
    have JJ := Lib.hid hj
    have SZ := Lib.hid hsz
    clear hr hc hle hj hsz
    gi_wp2_with (first
      | (refine in_plain wide_no rfl (by intro c h; cases h) ?_; refine wpList_nextG rfl _ rfl b r n f gg cnt rfl RR.out ?_ ?_))
    · intro h0
      refine in_done ?_
      gi_wp2
      go_end0
      refine ⟨⟨_, rfl⟩, .inl ⟨out, _, ⟨CC.out.dist, fun k => ?_, by have := LE.out; omega⟩, JJ.out⟩⟩
      rw [CC.out.all k, h0.out k]; simp
    · intro k v w5 cnt5 hg R5 hlt O5 S5 hent
      refine in_done ?_
      have KO := Lib.hid (show 0 ≤ k ∧ k < 65536 from RR.out.ok k v (RR.out.sub k v hg.out))
      have FK := Lib.hid (show f k ≠ none by rw [RR.out.sub k v hg.out]; simp)
      have J5 := Lib.hid (JO.out _ _ _ _ _ JJ.out O5.out RG.out RS.out)
      have SZ5 := Lib.hid (show W1.heap.size ≤ w5.heap.size by rw [S5.out]; exact SZ.out)
      obtain ⟨fn, tmps, assign, body, hy, hR⟩ := yield_any (HY.out _ out k w5 ⟨KO.out, FK.out, by have := LE.out; have := hlt.out; omega⟩ J5.out BB.out SZ5.out) 9 none
      change (Instr.yield l #[MK.kv k]).run Tryz.prog w5 = _ at hy
      gi_wp2_with fail
      refine hR.mono ?_
      rintro e W3 ⟨hs3, hk3, (⟨rfl, hJ3⟩ | ⟨rfl, hX3⟩)⟩
      · have J3 := Lib.hid hJ3
        have R3 := Lib.hid (show RangeG W3 b r n f (delG gg k) cnt5 from R5.out.same ((JN.out _ _ _ hJ3).2.trans (JN.out _ _ _ J5.out).2.symm) (hk3 r RG.out RS.out))
        have S3 := Lib.hid (Nat.le_trans SZ5.out hs3)
        have RL := Lib.hid (show W3.rangeLeft b r < wr.rangeLeft b r by rw [R3.out.left_eq, RR.out.left_eq]; exact hlt.out)
        clear hJ3 hR hy hk3 hs3
        gi_wp2
        go_roundw
        case rel => exact ⟨delG gg k, cnt5, out ++ [k], R3.out, CC.out.step hg.out, by have := LE.out; have := hlt.out; rw [List.length_append, List.length_singleton]; omega, J3.out, S3.out⟩
        case measure => exact RL.out
      · have X3 := Lib.hid hX3
        clear hX3 hR hy hk3 hs3
        gi_wp2
        refine bodyPost_ret (results_none rfl _ _ _) rfl ?_
        exact ⟨⟨_, rfl⟩, .inr X3.out⟩
end Go.Proofs.YtijfbhdbfplghaaGreat
namespace Go.Proofs.YtijfbhdbfplghaaGreat
open Go.RowKit
end Go.Proofs.YtijfbhdbfplghaaGreat
namespace Go.Proofs.YtijfbhdbfplghaaGreat
open Go.RowKit
section
variable {α : Type} {E : ElT α}
theorem run_oneG (L : E.Laws) (A : α) (h : E.ok A) (w : World) : (Instr.buildSlice E.s 1 #[(0, .agg (E.enc A).toArray)]).run Tryz.prog w = .ok (.slice (some ⟨w.heap.size, 0, none⟩) 1 1) (w.alloc (.cells (E.enc A).toArray E.t)) := by
  have hf := L.fill (E.enc A) (L.len A h)
  simp only [Instr.buildSlice, Sem.run_bind, run_underlying L.und, Result.andThen_ok, sizeOfG L]
  have hp := L.pos
  have hq := L.smax
  have h24 : (2 : Nat) ^ 24 = 16777216 := by decide
  rw [if_neg (by omega), if_neg (by omega)]
  simp only [Sem.run_bind, Sem.run_pure, Result.andThen_ok, zeroG L, Value.cells]
  rw [hf]
  rfl
theorem exec_oneG (L : E.Laws) {o : Oper} {a : Act} {w : World} (x : Operand) (ho : o.op = .buildSlice E.s 1 #[(0, x)]) (A : α) (hx : a.eval x = .agg (E.enc A).toArray) (hA : E.ok A) :
    (execOp a.eval o).run Tryz.prog w = .ok (.value (.slice (some ⟨w.heap.size, 0, none⟩) 1 1)) (w.alloc (.cells (E.enc A).toArray E.t)) := by
  have hr := run_oneG L A hA w
  unfold execOp
  simp only [ho, List.map_toArray, List.map_cons, List.map_nil, hx, Sem.run_bind, hr, Result.andThen_ok, Sem.run_pure]
theorem wpList_oneG (L : E.Laws) {ops : Array Oper} {rest : List Oper} {op : Oper} {a : Act} {w : World} {Q : Exit → Act → World → Prop} (hgd : op.guard = none) (x : Operand) (ho : op.op = .buildSlice E.s 1 #[(0, x)]) (A : α) (hx : a.eval x = .agg (E.enc A).toArray) (hA : E.ok A)
    (h : ∀ g w', Hid (g = w.heap.size) → Hid (Blk w' g E.t (E.enc A)) → Hid (Below w.heap.size w w') → wpList Tryz.prog ops Q rest (a.put op.dst (.slice (some ⟨g, 0, none⟩) 1 1)) w') : wpList Tryz.prog ops Q (op :: rest) a w := by
  refine wpList_plain hgd fun K hK => ?_
  have hr := exec_oneG L (w := w) x ho A hx hA
  unfold Oper.wp
  rw [hr]
  exact hK _ _ (h _ _ (Lib.hid rfl) (Lib.hid (blk_alloc w E.t (E.enc A))) (Lib.hid (new_below w _)))
end
/-! Vectors. -/
end Go.Proofs.YtijfbhdbfplghaaGreat
namespace Go.Proofs.YtijfbhdbfplghaaGreat
open Go.RowKit Go.Shelf
attribute [local go_sem] Oper.semAt_some
end Go.Proofs.YtijfbhdbfplghaaGreat
namespace Go.Proofs.YtijfbhdbfplghaaGreat
open Go.RowKit Go.Shelf
attribute [local go_sem] Oper.semAt_some
end Go.Proofs.YtijfbhdbfplghaaGreat
namespace Go.Proofs.YtijfbhdbfplghaaGreat
open Go.RowKit Go.Shelf
attribute [local go_sem] Oper.semAt_some
end Go.Proofs.YtijfbhdbfplghaaGreat
namespace Go.Proofs.YtijfbhdbfplghaaGreat
open Go.RowKit Go.Shelf
attribute [local go_sem] Oper.semAt_some
def EK : ElT Ky := ⟨Ky.cells, Ky.Ok, 53, 62, 12, 20, kzero⟩
theorem LK : EK.Laws := ⟨Tryz.underlying62, by kernel_rfl, kzero_ok, fun a h => kcells_len h.ml, kcells_ones, by decide, by decide, by decide, by decide, fillK⟩
def EN : ElT (List Int) := ⟨nmL, NOk, 25, 68, 8, 8, M.zero8⟩
theorem LN : EN.Laws := ⟨Tryz.underlying68, by kernel_rfl, zero8_nok, fun a h => by show (nmL a).length = 8; unfold nmL; rw [List.length_map]; exact h.1, nmL_ones, by decide, by decide, by decide, by decide, fillN⟩
end Go.Proofs.YtijfbhdbfplghaaGreat
