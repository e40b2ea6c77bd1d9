/- The contract of peaks of package delta. Maps of atoms to numbers in memory: what they hold, look-ups, entries and stores. The contracts of ContainsFunc of slices at atoms, and of the functions that Needless hands over. -/
import Derived.Test.YteocfhbfdhokbaaGreatDiff
import Derived.Test.YteocfhbfdhokbaaGreatMaps
import Derived.Test.YteocfhbfdhokbaaGreatCollect
import Derived.WideKeyEntry
namespace Go.Proofs.YteocfhbfdhokbaaGreat
open Go.RowKit

theorem map_take {α β : Type} {l : List α} {j : Nat} {d : α} (f : α → β) (h : j < l.length) : (l.take (j + 1)).map f = (l.take j).map f ++ [f (l.getD j d)] := by
  rw [List.take_add_one, List.getElem?_eq_getElem h, List.map_append, List.getD_eq_getElem?_getD, List.getElem?_eq_getElem h]; rfl
set_option maxRecDepth 100000 in
set_option maxHeartbeats 8000000 in
theorem peaks_is (A : Option Addr) (n cap : Nat) (ls : List (List Am)) (w : World) (h : RowsV w A n cap ls) (hf : FewR ls) : Calls Tryz.prog 28 #[.slice A n cap] w (GivesRs w (ls.map (top (gt ls.flatten)))) := by
  have hmf : ∀ (fn : Fn) (first cap : Array Value) (w : World), (Instr.makeFunc fn first cap).run Tryz.prog w = .ok (.func fn first cap) w := fun _ _ _ _ => rfl
  have hn : n ≤ 100 := by have := h.len; have := hf.1; omega
  obtain ⟨S, hS⟩ : ∃ S, gt ls.flatten = S := ⟨_, rfl⟩
  have HS := Lib.hid (show gt (norm ls.flatten) = S by rw [← hS]; exact funext (gt_norm (okR_flat h.ok)))
  rw [hS]
  have H := Lib.hid h
  have FF := Lib.hid hf
  have NL := Lib.hid (show (norm ls.flatten).length ≤ 600 from Nat.le_trans (norm_len _) hf.2)
  clear h hf hS
  go_enter Tryz.func28, Tryz.ntmps28
  go_wp2_with fail
  refine (all_is A n cap ls _ H.out FF.out).mono ?_
  rintro e w1 ⟨⟨D1, n1, c1, rfl, r1⟩, b1⟩
  have R1 := Lib.hid r1
  have B1 := Lib.hid b1
  have hn1 : n1 ≤ 600 := by have := NL.out; have := r1.len; omega
  clear r1 b1
  go_wp2_with fail
  refine (dvalues_is D1 n1 c1 _ _ R1.out hn1).mono ?_
  rw [HS.out]
  rintro e w2 ⟨⟨bm, rfl, _, m2⟩, b2⟩
  have M2 := Lib.hid (m2.below (new_below w2 (.cells #[.map (some bm)] 57)))
  have K2 := Lib.hid (blk_alloc w2 57 [.map (some bm)])
  have B2 := Lib.hid (step_ (step_ B1.out b2) (new_below w2 (.cells #[.map (some bm)] 57)))
  clear m2 b2 R1 B1
  go_wp2_with fail
  obtain ⟨w3, hw3⟩ : ∃ w3, w2.alloc (.cells #[.map (some bm)] 57) = w3 := ⟨_, rfl⟩
  rw [hw3] at M2 K2 B2 ⊢
  clear hw3
  go_loopw [4, 14] (fun v i wr => ∃ j : Nat, j ≤ n ∧ i = .int .i64 j ∧ OwnRs wr w3.heap.size 0 v ((ls.take j).map (top S)) ∧ Below w3.heap.size w3 wr) (fun _ i _ => n - (intOf i).toNat)
  case atStart => exact ⟨0, Nat.zero_le _, rfl, ownRs_nil _ _ _, Below.refl _ _⟩
  case round =>
    obtain ⟨j, hj, rfl, ho, hb⟩ := hrel
    have OO := Lib.hid ho
    have BB := Lib.hid hb
    clear ho hb
    by_cases hlt : j < n
    · obtain ⟨G, p, D1, m1, c1, hE⟩ := (H.out.below (step_ B2.out BB.out)).elem j hlt
      have E := Lib.hid hE
      have T := Lib.hid (map_take (d := []) (top S) (show j < ls.length by rw [H.out.len]; exact hlt))
      have hm1 : m1 ≤ 600 := by have := FF.out.at_ j; have := hE.row.len; omega
      have cell := E.out.cell
      have LEN := Lib.hid (show ((ls.take j).map (top S)).length ≤ 5000 by rw [List.length_map, List.length_take]; omega)
      obtain ⟨L, hL⟩ : ∃ L, ls.getD j [] = L := ⟨_, rfl⟩
      rw [hL] at E T
      clear hE hL
      go_wp2_with (first
        | go_skip
        | refine wpList_index40 rfl _ _ rfl A n cap G p j D1 m1 c1 _ _ rfl rfl (by first | rfl | omega) E.out ?_)
      refine (split_is 48 #[.pointer (some ⟨w2.heap.size, 0, none⟩)] (fun _ _ => rfl) (isTop S) D1 m1 c1 L _ E.out.row hm1 (fun x W hx hW => tops_is w2.heap.size bm S x W (M2.out.below (step_ BB.out hW)) (K2.out.below (step_ BB.out hW)) hx)).mono ?_
      rintro e w4 ⟨⟨D2, n2, c2, D3, n3, c3, rfl, r4, _, f4, _⟩, b4⟩
      have R4 := Lib.hid r4
      have B4 := Lib.hid b4
      have F4 := Lib.hid f4
      have O4 := Lib.hid (OO.out.below b4)
      clear r4 b4 f4
      go_wp2_with (first
        | go_skip
        | (refine wpList_rows1 rfl _ rfl D2 n2 c2 rfl ?_; intro g5 w5 e5 N5 B5)
        | (refine wpList_app_rs rfl _ _ rfl w3.heap.size 0 _ ((ls.take j).map (top S)) D2 n2 c2 (top S L) g5 rfl rfl (O4.out.below B5.out) (R4.out.below B5.out) (fun _ a ha => ⟨fun e => by have h1 := F4.out a ha; have h2 := (OO.out.lt e.symm).2; omega, Nat.zero_le _⟩) N5.out LEN.out (Nat.le_trans BB.out.size (step_ B4.out B5.out).size) ?_; intro D7 m7 c7 w7 e7 O7 B7 G7 L7))
      go_roundw
      case rel => exact ⟨j + 1, by omega, by go_num, by rw [T.out]; exact O7.out, (BB.out.trans ((step_ B4.out B5.out).mono BB.out.size)).trans B7.out⟩
      case measure => simp [intOf]; omega
    · obtain rfl : j = n := by omega
      have HT := Lib.hid (show ls.take j = ls from List.take_of_length_le (by have := H.out.len; omega))
      go_wp2_with fail
      go_ret
      rw [HT.out] at OO
      obtain ⟨E, cp, e9⟩ := OO.out.shape
      have O9 := OO.out
      rw [e9] at O9
      exact ⟨⟨E, _, cp, by rw [← e9]; rfl, O9.rows⟩, B2.out.trans (BB.out.mono B2.out.size)⟩
end Go.Proofs.YteocfhbfdhokbaaGreat
namespace Go.Proofs.YteocfhbfdhokbaaGreat
open Go.RowKit Go.Maps

theorem cells36_ : Tryz.prog.cellsOf 44 = 9 := by kernel_rfl
theorem cells38_ : Tryz.prog.cellsOf 46 = 21 := by kernel_rfl
theorem cells34_ : Tryz.prog.cellsOf 42 = 1 := by kernel_rfl
theorem names30 : (Tryz.prog.fieldsOf 44).all (·.name != "_") = true := by kernel_rfl
theorem names32 : (Tryz.prog.fieldsOf 46).all (·.name != "_") = true := by kernel_rfl
theorem keyType38 : Tryz.prog.keyType 46 = true := by kernel_rfl
theorem row38 : (46 : TypeId) < Tryz.prog.types.size := of_decide_eq_true (by kernel_rfl)
theorem keyAt38 : Tryz.prog.keyTypeAt 4 46 = true := by kernel_rfl
set_option maxRecDepth 100000 in
theorem lawA0 : WideMaps.KeyLaw Tryz.prog 46 := deep_law_laid laidOut (m := 4) (by omega) row38 keyAt38 (by rw [under32])
theorem lawA : Keyed Tryz.prog 46 := Keyed.of_law lawA0
theorem litsV (d : Nat) {v : Vl} (h : v.Ok) : ∃ ls, Tryz.prog.keyLits (d + 3) 44 v.cells = some ls := by
  rw [keyLits_struct under30 (by rw [vcells_len h.tl, cells36_]) names30, fields30]
  have key : ∃ ys, List.mapM (fun f : Field => Tryz.prog.keyLits (d + 2) f.type ((v.cells.drop f.offset).take (Tryz.prog.cellsOf f.type))) [⟨ "N", 42, 0, false, "", "", 0⟩, ⟨ "Text", 38, 1, false, "", "", 8⟩] = some ys := by
    refine mapM_some _ (fun f hf => ?_)
    simp only [List.mem_cons, List.not_mem_nil, or_false] at hf
    rcases hf with rfl | rfl
    · have e : (v.cells.drop 0).take 1 = [.int .u64 v.n] := rfl
      simp only [cells34_, e]
      exact ⟨_, litW (d + 1) Tryz.underlying42 (WalkArith.wf_u64 (by have := h.n0; have := h.n1; omega))⟩
    · have e : (v.cells.drop 1).take 8 = v.t.map (Value.int .u8) := by
        simp only [Vl.cells, List.drop_succ_cons, List.drop_zero]
        exact List.take_of_length_le (by rw [List.length_map, h.tl]; omega)
      simp only [cells25, e]
      exact lits25 d h.tl h.tb
  obtain ⟨ys, hy⟩ := key
  rw [hy]
  exact ⟨_, rfl⟩
theorem litsA (d : Nat) {a : Am} (h : a.Ok) : ∃ ls, Tryz.prog.keyLits (d + 4) 46 a.cells = some ls := by
  rw [keyLits_struct under32 (by rw [acells_len h, cells38_]) names32, fields32]
  have key : ∃ ys, List.mapM (fun f : Field => Tryz.prog.keyLits (d + 3) f.type ((a.cells.drop f.offset).take (Tryz.prog.cellsOf f.type))) [⟨ "K", 41, 0, false, "", "", 0⟩, ⟨ "V", 44, 12, false, "", "", 12 * 2⟩] = some ys := by
    refine mapM_some _ (fun f hf => ?_)
    simp only [List.mem_cons, List.not_mem_nil, or_false] at hf
    rcases hf with rfl | rfl
    · have e : (a.cells.drop 0).take 12 = a.k.cells := by
        rw [List.drop_zero, Am.cells]
        exact List.take_left' (kcells_len h.k.ml)
      simp only [cells28_, e]
      exact lits28 d h.k
    · have e : (a.cells.drop 12).take 9 = a.v.cells := by
        rw [Am.cells, List.drop_left' (kcells_len h.k.ml)]
        exact List.take_of_length_le (by rw [vcells_len h.v.tl]; omega)
      simp only [cells36_, e]
      exact litsV d h.v
  obtain ⟨ys, hy⟩ := key
  rw [hy]
  exact ⟨_, rfl⟩
theorem keyA {a : Am} (h : a.Ok) : ∃ l, keyOf Tryz.prog 46 (.agg a.cells.toArray) = some l := by
  obtain ⟨ls, hl⟩ := litsA 149 h
  have hs : Tryz.prog.types.size + 1 = 149 + 4 := by rw [types_]
  rw [keyOf_struct under32 keyType38 (by simp [Value.formed, cells38_, acells_len h]), hs]
  have e : (Value.agg a.cells.toArray).cells.toList = a.cells := rfl
  rw [e, hl]
  exact ⟨_, rfl⟩
theorem am_inj {a b : Am} (ha : a.Ok) (hb : b.Ok) (h : Value.agg a.cells.toArray = .agg b.cells.toArray) : a = b := by
  have e : a.cells = b.cells := by
    have := congrArg (fun v => match v with | Value.agg cs => cs.toList | _ => []) h
    simpa using this
  obtain ⟨e1, e2⟩ := List.append_inj e (by rw [kcells_len ha.k.ml, kcells_len hb.k.ml])
  obtain ⟨k, v⟩ := a
  obtain ⟨k', v'⟩ := b
  simp only at e1 e2
  have q1 : k = k' := ky_inj ha.k.ml hb.k.ml (by rw [e1])
  have q2 : v = v' := vl_inj (by rw [e2])
  rw [q1, q2]
/-- The map in b counts f. -/
def MapC (w : World) (b n : Nat) (f : Am → Int) : Prop :=
  ∃ D, w.ownsMap Tryz.prog 46 heldE b n D ∧ ∀ a l, a.Ok → keyOf Tryz.prog 46 (.agg a.cells.toArray) = some l → D.atKey l (.held (.int .i64 0)) = .held (.int .i64 (f a))
theorem mapC_made (w : World) : MapC (w.alloc (.map #[] 0)) w.heap.size 0 (fun _ => 0) := ⟨.map [], World.ownsMap_made w Tryz.prog 46 heldE, fun _ _ _ _ => rfl⟩
theorem MapC.lt {w : World} {b n : Nat} {f : Am → Int} (h : MapC w b n f) : b < w.heap.size := by obtain ⟨D, h1, _⟩ := h; exact h1.lt
theorem MapC.kept {w w' : World} {b n : Nat} {f : Am → Int} {row : Option Nat} (h : MapC w b n f) (hg : w.grownBy w' row) (hne : some b ≠ row) : MapC w' b n f := by
  obtain ⟨D, h1, h2⟩ := h; exact ⟨D, h1.kept hg hne, h2⟩
theorem MapC.below {w w' : World} {b n : Nat} {f : Am → Int} (h : MapC w b n f) (hb : Below w.heap.size w w') : MapC w' b n f := h.kept (grown_of hb) (by simp)
theorem MapC.only {w w' : World} {g b n : Nat} {f : Am → Int} (h : MapC w b n f) (ho : Only g w w') (hg : b ≠ g) : MapC w' b n f :=
  h.kept (row := some g) ⟨ho.os, ho.tape, ho.output, ho.size, fun k hk hn => ho.block k hk (fun e => hn (by rw [e]))⟩ (fun e => hg (Option.some.inj e))
theorem MapC.upto {w w' : World} {B b n : Nat} {f : Am → Int} (h : MapC w b n f) (hb : Below B w w') (hB : b < B) : MapC w' b n f := by
  obtain ⟨D, ⟨es, clock, e, r⟩, h2⟩ := h; exact ⟨D, ⟨es, clock, (hb.block b hB).trans e, r⟩, h2⟩
theorem MapC.mono {w : World} {b n n' : Nat} {f : Am → Int} (h : MapC w b n f) (hn : n ≤ n') : MapC w b n' f := by
  obtain ⟨D, h1, h2⟩ := h; exact ⟨D, h1.mono hn, h2⟩
theorem MapC.same {w w' : World} {b n : Nat} {f : Am → Int} (h : MapC w b n f) (hb : w'.heap[b]? = w.heap[b]?) : MapC w' b n f := by
  obtain ⟨D, ⟨es, clock, e, r⟩, h2⟩ := h; exact ⟨D, ⟨es, clock, hb.trans e, r⟩, h2⟩
theorem RowV.nomap {w w' : World} {A : Option Addr} {n cap b k : Nat} {l : List Am} {f : Am → Int} (h : RowV w A n cap l) (ho : Only b w w') (hm : MapC w b k f) : RowV w' A n cap l :=
  ⟨h.ok, h.len, h.le, h.most, fun h0 => by
    obtain ⟨G, off, ha, hG, hr⟩ := h.at_ h0
    have hne : G ≠ b := by
      rintro rfl
      obtain ⟨D, ⟨es, clock, e, _⟩, _⟩ := hm
      have h1 := hr 0 (by rw [h.len]; exact h0) 0 _ (by rw [Am.cells, List.getElem?_append_left (by rw [kcells_len (h.ok _ (List.getElem_mem _)).k.ml]; omega)]; exact kc0 _)
      unfold World.cell? at h1
      simp only [e] at h1
      cases h1
    refine ⟨G, off, ha, Nat.lt_of_lt_of_le hG ho.size, fun i hi j v hv => ?_⟩
    have h1 := hr i hi j v hv
    unfold World.cell? at *
    rw [show w'.heap[(⟨G, off + i * 21 + j, none⟩ : Addr).block]? = w.heap[(⟨G, off + i * 21 + j, none⟩ : Addr).block]? from ho.block G hG hne]
    exact h1⟩
theorem run_lookC {w : World} {b n : Nat} {f : Am → Int} (h : MapC w b n f) {a : Am} (ha : a.Ok) : (Instr.lookup 49 (.map (some b)) (.agg a.cells.toArray) false).run Tryz.prog w = .ok (.int .i64 (f a)) w := by
  obtain ⟨D, h1, h2⟩ := h
  obtain ⟨l, hl⟩ := keyA ha
  obtain ⟨v, ps, hr, hv⟩ := h1.lookup lawA Tryz.underlying49 (Tryz.zeroValue3 w) (zd := .held (.int .i64 0)) (zp := []) rfl hl
  rw [hr]
  unfold heldE at hv
  simp only [Option.some.injEq, Prod.mk.injEq] at hv
  rw [h2 a l ha hl] at hv
  rw [DataW.held.inj hv.1]
def updC (f : Am → Int) (a : Am) (x : Int) : Am → Int := fun y => if y = a then x else f y
theorem at_put {D : DataW Value} {f : Am → Int} (hm : IsMap D) (h : ∀ a l, a.Ok → keyOf Tryz.prog 46 (.agg a.cells.toArray) = some l → D.atKey l (.held (.int .i64 0)) = .held (.int .i64 (f a))) {a : Am} (ha : a.Ok) {l : Lit} (hl : keyOf Tryz.prog 46 (.agg a.cells.toArray) = some l) (x : Int) :
    ∀ a' l', a'.Ok → keyOf Tryz.prog 46 (.agg a'.cells.toArray) = some l' → (D.put l (.held (.int .i64 x))).atKey l' (.held (.int .i64 0)) = .held (.int .i64 (updC f a x a')) := fun a' l' ha' hl' => by
  unfold updC
  by_cases e : l' = l
  · subst e
    rw [if_pos (am_inj ha' ha (lawA.inj hl' hl))]
    exact Maps.atKey_put_same hm (lawA.key hl) _ _
  · rw [if_neg (fun e2 => e (by rw [e2, hl] at hl'; exact (Option.some.inj hl').symm)), Maps.atKey_put_other e]
    exact h a' l' ha' hl'
/-- What an entry leaves: whatever is stored behind it. -/
def Pend (w1 : World) (b st : Nat) (a : Am) (n : Nat) (f : Am → Int) : Prop :=
  ∀ (w2 : World) (x : Int), w2.heap[b]? = w1.heap[b]? → ∃ w3, (Instr.entryStore 49 (.map (some b)) (goInt st) (.int .i64 x)).run Tryz.prog w2 = .ok () w3 ∧ MapC w3 b (n + 1) (updC f a x) ∧ w2.grownBy w3 (some b)
theorem run_entryC {w : World} {b n : Nat} {f : Am → Int} (h : MapC w b n f) (hn : n ≤ 50000) {a : Am} (ha : a.Ok) :
    ∃ (v0 : Value) (st : Nat) (w1 : World), (Instr.mapEntry 49 (.map (some b)) (.agg a.cells.toArray)).run Tryz.prog w = .ok (.tuple #[v0, goInt st]) w1 ∧ MapC w1 b (n + 1) f ∧ w.grownBy w1 (some b) ∧ Pend w1 b st a n f := by
  obtain ⟨D, h1, h2⟩ := h
  obtain ⟨l, hl⟩ := keyA ha
  have h1' := h1
  obtain ⟨es, clock, hb, F, hs, hD⟩ := h1
  obtain ⟨v0, st, es1, clock1, hrun, _, hst⟩ := WideElems.entry_then_store lawA0 Tryz.underlying49 (z := .int .i64 0) Tryz.zeroValue3 hb F hl
  have grow : ∀ (w2 : World) (o : Obj) {es2 : Array MapEntry} {c2 : Nat}, w2.heap[b]? = some (.map es2 c2) → w2.grownBy (ChangeMaps.setBlock w2 b o) (some b) := fun w2 o es2 c2 hb2 => ⟨rfl, rfl, rfl, by simp [ChangeMaps.setBlock], fun i _ hi => ChangeMaps.heap_setBlock_other hb2 _ (fun e => hi (by rw [e]))⟩
  have hlt : n < maxLen := by unfold maxLen; omega
  refine ⟨v0, st, _, hrun, ?_, grow w _ hb, ?_⟩
  · have hb1 := ChangeMaps.heap_setBlock_same hb (.map es1 clock1)
    rcases Maps.fit_look (R := heldE) false lawA Tryz.underlying49 (Tryz.zeroValue3 w) hb F hl with ⟨_, hno, hat⟩ | ⟨e0, y, he0, hk0, _⟩
    · -- the key is new
      obtain ⟨es', clock', _, hup⟩ := hst _ (.int .i64 0) hb1
      rcases lawA0.find w hl es.toList F.keys with ⟨q1, _⟩ | ⟨j, e0, _, q2, q3⟩
      · have hrun2 : (Instr.mapEntry 49 (.map (some b)) (.agg a.cells.toArray)).run Tryz.prog w = .ok (.tuple #[.int .i64 0, goInt clock]) (ChangeMaps.setBlock w b (.map (es.push ⟨.agg a.cells.toArray, .int .i64 0, clock⟩) (clock + 1))) := by
          simp [Instr.mapEntry, run_underlying Tryz.underlying49, MapKept.run_getObj_map hb, lawA0.check w false hl, q1, Tryz.zeroValue3, MapKept.run_setObj_map _ hb, Result.andThen, ChangeMaps.setBlock]
        have hup2 : (Instr.mapUpdate 49 (.map (some b)) (.agg a.cells.toArray) (.int .i64 0)).run Tryz.prog w = .ok () (ChangeMaps.setBlock w b (.map (es.push ⟨.agg a.cells.toArray, .int .i64 0, clock⟩) (clock + 1))) := by
          simp [Instr.mapUpdate, run_underlying Tryz.underlying49, MapKept.run_getObj_map hb, lawA0.check w false hl, q1, MapKept.run_setObj_map _ hb, Result.andThen, ChangeMaps.setBlock]
        have e1 : ChangeMaps.setBlock w b (.map es1 clock1) = ChangeMaps.setBlock w b (.map (es.push ⟨.agg a.cells.toArray, .int .i64 0, clock⟩) (clock + 1)) := by
          have := hrun.symm.trans hrun2
          simp only [Result.ok.injEq] at this
          exact this.2
        obtain ⟨w', hr', h3, _⟩ := h1'.update lawA Tryz.underlying49 hlt (val := .int .i64 0) (d := .held (.int .i64 0)) (ps := []) hl rfl
        have e2 : w' = ChangeMaps.setBlock w b (.map es1 clock1) := by
          have := hr'.symm.trans hup2
          simp only [Result.ok.injEq] at this
          rw [this.2, e1]
        rw [e2] at h3
        refine ⟨_, h3, fun a' l' ha' hl' => ?_⟩
        rw [at_put h1'.isMap h2 ha hl 0 a' l' ha' hl']
        unfold updC
        split
        · rename_i e9
          have := h2 a l ha hl
          rw [hD, hat] at this
          have := DataW.held.inj this
          simp only [Value.int.injEq, true_and] at this
          rw [e9, ← this]
        · rfl
      · exact absurd q3 (hno e0 (List.mem_of_getElem? q2))
    · -- the key is there
      rcases lawA0.find w hl es.toList F.keys with ⟨_, q2⟩ | ⟨j, e1, q1, q2, q3⟩
      · exact absurd hk0 (q2 e0 he0)
      · have hj : es[j]? = some e1 := by simpa using q2
        have hsame : es.modify j (fun e => { e with key := .agg a.cells.toArray }) = es := by
          apply Array.ext'
          rw [Array.toList_modify, ChangeMaps.modify_eq_set _ _ _ _ q2]
          have : ({ e1 with key := .agg a.cells.toArray } : MapEntry) = e1 := by rw [← q3]
          rw [this]
          exact WideElems.set_self _ _ _ q2
        have hrun2 : (Instr.mapEntry 49 (.map (some b)) (.agg a.cells.toArray)).run Tryz.prog w = .ok (.tuple #[e1.val, goInt e1.born]) (ChangeMaps.setBlock w b (.map es clock)) := by
          simp [Instr.mapEntry, run_underlying Tryz.underlying49, MapKept.run_getObj_map hb, lawA0.check w false hl, q1, hj, q3, lawA0.stays w hl, hsame, MapKept.run_setObj_map _ hb, Result.andThen, ChangeMaps.setBlock]
        have e2 : ChangeMaps.setBlock w b (.map es1 clock1) = ChangeMaps.setBlock w b (.map es clock) := by
          have := hrun.symm.trans hrun2
          simp only [Result.ok.injEq] at this
          exact this.2
        rw [e2]
        exact MapC.mono (MapC.same ⟨D, h1', h2⟩ ((ChangeMaps.heap_setBlock_same hb _).trans hb.symm)) (Nat.le_succ _)
  · intro w2 x hw2
    have hb1 := ChangeMaps.heap_setBlock_same hb (.map es1 clock1)
    obtain ⟨es', clock', r1, r2⟩ := hst w2 (.int .i64 x) (hw2.trans hb1)
    obtain ⟨w', hr', h3, _⟩ := h1'.update lawA Tryz.underlying49 hlt (val := .int .i64 x) (d := .held (.int .i64 x)) (ps := []) hl rfl
    have e2 : w' = ChangeMaps.setBlock w b (.map es' clock') := by
      have := hr'.symm.trans r2
      simp only [Result.ok.injEq] at this
      exact this.2
    rw [e2] at h3
    refine ⟨_, r1, MapC.same (w := ChangeMaps.setBlock w b (.map es' clock')) ⟨_, h3, at_put h1'.isMap h2 ha hl x⟩ ?_, grow w2 _ (hw2.trans hb1)⟩
    rw [ChangeMaps.heap_setBlock_same hb, ChangeMaps.heap_setBlock_same (hw2.trans hb1)]
end Go.Proofs.YteocfhbfdhokbaaGreat
namespace Go.Proofs.YteocfhbfdhokbaaGreat
open Go.RowKit

theorem wpList_lookC {ops : Array Oper} {rest : List Oper} {op : Oper} {a : Act} {w : World} {Q : Exit → Act → World → Prop} (hgd : op.guard = none) (x y : Operand) (ho : op.op = .lookup 49 x y false) (b n : Nat) (f : Am → Int) (k : Am) (hx : a.eval x = .map (some b)) (hy : a.eval y = .agg k.cells.toArray) (hm : MapC w b n f) (hk : k.Ok)
    (h : wpList Tryz.prog ops Q rest (a.put op.dst (.int .i64 (f k))) w) : wpList Tryz.prog ops Q (op :: rest) a w := by
  refine wpList_val hgd _ ?_ h
  have hr := run_lookC hm hk
  unfold execOp
  simp only [ho, hx, hy, Sem.run_bind, hr, Result.andThen_ok, Sem.run_pure]
set_option maxRecDepth 100000 in
set_option maxHeartbeats 4000000 in
theorem lone_is (g b n : Nat) (f : Am → Int) (x : Am) (w : World) (h : MapC w b n f) (hg : Blk w g 49 [.map (some b)]) (hx : x.Ok) :
    Calls Tryz.prog 31 #[.agg x.cells.toArray, .pointer (some ⟨g, 0, none⟩)] w fun e w' => e = .returned (.bool (decide (f x = 1))) ∧ Below w.heap.size w w' := by
  have K1 := Lib.hid (blk_alloc w 46 x.cells)
  have QB := Lib.hid (new_below w (.cells x.cells.toArray 46))
  have HM := Lib.hid (h.below QB.out)
  have c0 := (hg.below QB.out).cell (i := 0) rfl
  have HX := Lib.hid hx
  clear h hg hx
  go_enter Tryz.func31, Tryz.ntmps31
  go_wp2_with (first
    | refine wpList_load_am rfl _ rfl w.heap.size x rfl K1.out HX.out ?_
    | refine wpList_lookC rfl _ _ rfl b n f x rfl rfl HM.out HX.out ?_)
  go_ret
  exact ⟨ret_bool rfl, QB.out⟩
theorem any_take {l : List Am} {p : Am → Bool} {j : Nat} (hj : j < l.length) : (l.take (j + 1)).any p = ((l.take j).any p || p (l.getD j azero)) := by
  rw [take_getD hj, List.any_append]; simp
theorem any_at {l : List Am} {p : Am → Bool} {j : Nat} (hj : j < l.length) (h : p (l.getD j azero) = true) : l.any p = true := by
  rw [List.any_eq_true]
  refine ⟨l[j], List.getElem_mem _, ?_⟩
  rw [List.getD_eq_getElem?_getD, List.getElem?_eq_getElem hj, Option.getD_some] at h
  exact h
set_option maxRecDepth 100000 in
set_option maxHeartbeats 4000000 in
theorem indexA_is (g : Nat) (caps : Array Value) (eg : ∀ args w, (callFunc g args).run Tryz.prog w = .ok (.enter g args) w) (p : Am → Bool) (A : Option Addr) (n cap : Nat) (l : List Am) (w : World) (h : RowV w A n cap l) (hn : n ≤ 600)
    (hc : ∀ x W, x.Ok → Below w.heap.size w W → Calls Tryz.prog g (#[.agg x.cells.toArray] ++ caps) W fun e W' => e = .returned (.bool (p x)) ∧ Below W.heap.size W W') :
    Calls Tryz.prog 49 #[.slice A n cap, .func (.func g) #[] caps] w fun e w' => (∃ i : Int, e = .returned (.int .i64 i) ∧ decide (0 ≤ i) = l.any p) ∧ Below w.heap.size w w' := by
  have H := Lib.hid h
  have HC := Lib.hid hc
  clear h hc
  go_enter Tryz.func49, Tryz.ntmps49
  go_wp2_with fail
  go_loopw [8] (fun i wr => ∃ j : Nat, j ≤ n ∧ i = .int .i64 j ∧ (l.take j).any p = false ∧ Below w.heap.size w wr) (fun i _ => n - (intOf i).toNat)
  case atStart => exact ⟨0, Nat.zero_le _, rfl, rfl, Below.refl _ _⟩
  case round =>
    obtain ⟨j, hj, rfl, ha, hb⟩ := hrel
    have AA := Lib.hid ha
    have BB := Lib.hid hb
    clear ha hb
    by_cases hlt : j < n
    · obtain ⟨G, p0, hE⟩ := (H.out.below BB.out).elem j hlt
      have E := Lib.hid hE
      have HJ := Lib.hid (show j < l.length by rw [H.out.len]; exact hlt)
      have TT := Lib.hid (any_take (p := p) HJ.out)
      have TA := Lib.hid (any_at (p := p) HJ.out)
      obtain ⟨x, hx⟩ : ∃ x, l.getD j azero = x := ⟨_, rfl⟩
      rw [hx] at E TT TA
      clear hE hx
      cases hp : p x with
      | true =>
        have HP := Lib.hid hp
        clear hp
        go_wp2_with (first
          | go_skip
          | refine wpList_index rfl _ _ rfl A n cap G p0 j x _ rfl rfl (by first | rfl | omega) E.out ?_
          | refine wpList_load_amx rfl _ rfl G p0 x rfl E.out.rg E.out.ok ?_)
        refine (HC.out x _ E.out.ok BB.out).mono ?_
        rw [HP.out]
        rintro e w3 ⟨rfl, b3⟩
        have B3 := Lib.hid (step_ BB.out b3)
        clear b3
        go_wp2_with fail
        go_ret
        exact ⟨⟨(j : Int), rfl, by rw [TA.out HP.out]; exact decide_eq_true (by omega)⟩, B3.out⟩
      | false =>
        have HP := Lib.hid hp
        clear hp
        go_wp2_with (first
          | go_skip
          | refine wpList_index rfl _ _ rfl A n cap G p0 j x _ rfl rfl (by first | rfl | omega) E.out ?_
          | refine wpList_load_amx rfl _ rfl G p0 x rfl E.out.rg E.out.ok ?_)
        refine (HC.out x _ E.out.ok BB.out).mono ?_
        rw [HP.out]
        rintro e w3 ⟨rfl, b3⟩
        have B3 := Lib.hid (step_ BB.out b3)
        clear b3
        go_wp2_with fail
        go_roundw
        case rel => exact ⟨j + 1, by omega, by go_num, by rw [TT.out, AA.out, HP.out]; rfl, B3.out⟩
        case measure => simp [intOf]; omega
    · obtain rfl : j = n := by omega
      have HS := Lib.hid (show l.take j = l from List.take_of_length_le (by have := H.out.len; omega))
      go_wp2_with fail
      go_ret
      exact ⟨⟨-1, rfl, by rw [← HS.out, AA.out]; rfl⟩, BB.out⟩
set_option maxRecDepth 100000 in
set_option maxHeartbeats 4000000 in
theorem containsA_is (g : Nat) (caps : Array Value) (eg : ∀ args w, (callFunc g args).run Tryz.prog w = .ok (.enter g args) w) (p : Am → Bool) (A : Option Addr) (n cap : Nat) (l : List Am) (w : World) (h : RowV w A n cap l) (hn : n ≤ 600)
    (hc : ∀ x W, x.Ok → Below w.heap.size w W → Calls Tryz.prog g (#[.agg x.cells.toArray] ++ caps) W fun e W' => e = .returned (.bool (p x)) ∧ Below W.heap.size W W') :
    Calls Tryz.prog 30 #[.slice A n cap, .func (.func g) #[] caps] w fun e w' => e = .returned (.bool (l.any p)) ∧ Below w.heap.size w w' := by
  have H := Lib.hid h
  have HC := Lib.hid hc
  clear h hc
  go_enter Tryz.func30, Tryz.ntmps30
  go_wp2_with fail
  refine (indexA_is g caps eg p A n cap l _ H.out hn HC.out).mono ?_
  rintro e w1 ⟨⟨i, rfl, hi⟩, b1⟩
  have HI := Lib.hid hi
  have B1 := Lib.hid b1
  clear hi b1
  go_wp2_with fail
  go_ret
  exact ⟨ret_bool HI.out, B1.out⟩
set_option maxRecDepth 100000 in
set_option maxHeartbeats 4000000 in
theorem spares_is (g b m : Nat) (f : Am → Int) (A : Option Addr) (n cap : Nat) (l : List Am) (w : World) (h : RowV w A n cap l) (hn : n ≤ 600) (hm : MapC w b m f) (hg : Blk w g 49 [.map (some b)]) :
    Calls Tryz.prog 29 #[.slice A n cap, .pointer (some ⟨g, 0, none⟩)] w fun e w' => e = .returned (.bool (!l.any fun x => decide (f x = 1))) ∧ Below w.heap.size w w' := by
  have hmf : ∀ (fn : Fn) (first cap : Array Value) (w : World), (Instr.makeFunc fn first cap).run Tryz.prog w = .ok (.func fn first cap) w := fun _ _ _ _ => rfl
  have H := Lib.hid h
  have HM := Lib.hid hm
  have HG := Lib.hid hg
  clear h hm hg
  go_enter Tryz.func29, Tryz.ntmps29
  go_wp2_with fail
  refine (containsA_is 31 #[.pointer (some ⟨g, 0, none⟩)] (fun _ _ => rfl) (fun x => decide (f x = 1)) A n cap l _ H.out hn (fun x W hx hW => lone_is g b m f x W (HM.out.below hW) (HG.out.below hW) hx)).mono ?_
  rintro e w1 ⟨rfl, b1⟩
  have B1 := Lib.hid b1
  clear b1
  go_wp2_with fail
  go_ret
  exact ⟨rfl, B1.out⟩
end Go.Proofs.YteocfhbfdhokbaaGreat
