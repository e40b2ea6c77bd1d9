/- The contract of SortFunc at atoms. The contracts of sorted, All and Join of package lat. The contracts of Clone of slices at atoms, and of All, Join and Norm of package lat. The contract of only of package lat. The contract of Find of package lat. The contracts of Equal of maps, and of Same of package lat. -/
import Derived.Test.YtijfbhdbfplghaaGreatH16
import Derived.Test.YtijfbhdbfplghaaGreatH22
import Derived.Test.YtijfbhdbfplghaaGreatH09
namespace Go.Proofs.YtijfbhdbfplghaaGreat
open Go.RowKit Go.Sort
/-- An atom whose fields fit. -/
abbrev Ao := { a : Am // a.Ok }
instance : Inhabited Ao := ⟨⟨azero, azero_ok⟩⟩
def enA (x : Ao) : List Value := x.1.cells
def cfA (x y : Ao) : Int := cmpAm x.1 y.1
theorem ltA (x y : Ao) : ltOf cfA x y = decide (x.1.k.kn < y.1.k.kn) := by
  unfold ltOf cfA cmpAm
  rw [cmp3_less, ← less_kn x.2.k y.2.k]
  rfl
theorem swoA : SWO (ltOf cfA) where
  irrefl x := by rw [ltA]; simp
  trans x y z h1 h2 := by rw [ltA] at *; simp only [decide_eq_true_eq] at *; omega
  ntrans x y z h1 h2 := by rw [ltA] at *; simp only [decide_eq_false_iff_not] at *; omega
theorem cmpLays54 (blk off size : Nat) (w : World) : CmpLays Tryz.prog 120 #[] enA 21 cfA blk off size w := fun m os dk _ x y =>
  (cmpAm_is x.1 y.1 (sortWorldK enA 21 w blk off m dk os) x.2 y.2).mono fun _ _ h => ⟨h.1, h.2.grow⟩
def arrL : (l : List Am) → OkR l → List Ao
  | [], _ => []
  | a :: l, h => ⟨a, h.head⟩ :: arrL l h.tail
theorem arrL_map : ∀ (l : List Am) (h : OkR l), (arrL l h).map Subtype.val = l
  | [], _ => rfl
  | a :: l, h => by rw [arrL, List.map_cons, arrL_map l h.tail]
def arr (l : List Am) (h : OkR l) : Array Ao := (arrL l h).toArray
theorem arr_size (l : List Am) (h : OkR l) : (arr l h).size = l.length := by
  have := congrArg List.length (arrL_map l h)
  rw [List.length_map] at this
  exact this
theorem arr_get (l : List Am) (h : OkR l) (i : Nat) (hi : i < l.length) : ((arr l h)[i]!).1 = l[i] := by
  have hs := arr_size l h
  rw [getElem!_pos _ i (by rw [hs]; exact hi)]
  have e : ((arrL l h).map Subtype.val)[i]? = l[i]? := by rw [arrL_map]
  rw [List.getElem?_map, List.getElem?_eq_getElem hi, List.getElem?_eq_getElem (by rw [← hs] at hi; exact hi)] at e
  exact Option.some.inj e
theorem arr_list (l : List Am) (h : OkR l) : (arr l h).toList.map Subtype.val = l := arrL_map l h
theorem extract_all (d : Array Ao) (n : Nat) (h : n = d.size) : (d.extract 0 n).toList = d.toList := by subst h; simp
theorem ownR_holds {w : World} {B g cap : Nat} {l : List Am} (h : OwnR w B (.slice (some ⟨g, 0, none⟩) l.length cap) l) : HoldsK enA 21 w g 0 (arr l h.ok) := by
  rcases h.row.2 with ⟨e, _⟩ | ⟨g', cap', cur, e, hb, hg, hn, hc, hs, ht⟩
  · cases e
  · injection e with e1 e2 e3
    injection e1 with e1
    injection e1 with e1
    subst e1
    intro t ht'
    rw [size_flatK, arr_size] at ht'
    rw [get_flatK _ _ _ t (by rw [arr_size]; exact ht')]
    have hi : t / 21 < l.length := by omega
    have hj : t % 21 < 21 := by omega
    have e4 : enA (arr l h.ok)[t / 21]! = l[t / 21].cells := by unfold enA; rw [arr_get l h.ok _ hi]
    have hlen := acells_len (h.ok _ (List.getElem_mem hi))
    rw [e4]
    have hv : l[t / 21].cells[t % 21]? = some (l[t / 21].cells[t % 21]!) := by
      rw [List.getElem?_eq_getElem (by omega), getElem!_pos _ _ (by omega)]
    have h1 := acs_get h.ok _ hi (t % 21) _ hv
    rw [show t / 21 * 21 + t % 21 = t by omega, ← ht, List.getElem?_take_of_lt ht'] at h1
    refine ⟨?_, ?_⟩
    · rw [cell_of_row _ g _ cur 58 (0, 0) hg, Nat.zero_add]
      simpa using h1
    · unfold World.frozen?
      simp [hg]
theorem sortW_only (w : World) (g : Nat) (n : Nat) (d : Array Ao) (os : Array Obj) : Only g w (sortWorldK enA 21 w g 0 n d os) := by
  have hb : ∀ k, k < w.heap.size → k ≠ g → (sortWorldK enA 21 w g 0 n d os).heap[k]? = w.heap[k]? := by
    intro k hk hn
    unfold sortWorldK putRowK putRow mapBlock grow Go.Sort.ahead
    simp only
    rw [Array.getElem?_append_left (by simpa using hk), Array.getElem?_modify, if_neg (fun e => hn e.symm)]
  refine ⟨rfl, rfl, rfl, ?_, hb⟩
  unfold sortWorldK putRowK
  rw [size_grow, size_putRow]
  show w.heap.size ≤ w.heap.size + os.size
  omega
/-- What the sort leaves: a state, if no key was there twice. -/
theorem sort_is (g cap : Nat) (B : Nat) (l : List Am) (w : World) (h : OwnR w B (.slice (some ⟨g, 0, none⟩) l.length cap) l) (hr : ∀ a ∈ l, a.right = true) (hd : l.Pairwise (fun a b => a.k ≠ b.k)) (hn : l.length ≤ 5000) :
    Calls Tryz.prog 119 #[.slice (some ⟨g, 0, none⟩) l.length cap, .func (.func 120) #[] #[]] w fun e w' => e = .returned (.tuple #[]) ∧ ∃ s, St s ∧ (∀ a, a ∈ s ↔ a ∈ l) ∧ RowV w' (some ⟨g, 0, none⟩) l.length cap s ∧ Only g w w' := by
  have hH := ownR_holds h
  have hg : g < w.heap.size := (h.row.lt g rfl).2
  have eg : ∀ args w, (callFunc 120 args).run Tryz.prog w = .ok (.enter 120 args) w := enters_of Tryz.func120 (by kernel_rfl) rfl
  have hcap : l.length ≤ cap ∧ cap ≤ maxLen := by
    rcases h.row.2 with ⟨e, _⟩ | ⟨g', cap', cur, e, _, _, h1, h2, _⟩
    · cases e
    · injection e with e1 e2 e3; subst e3; exact ⟨h1, h2⟩
  have hcon := AnyQ.slices_SortFunc Tryz.sortAm 21 Tryz.isAgg58 sizeOf49 enA (fun x => acells_len x.2) (fun x => all_list (one32 x.1)) cfA swoA 120 #[] g 0 cap (arr l h.ok) w eg (cmpLays54 g 0 _ w) hH hg (by rw [arr_size]; omega)
  rw [arr_size] at hcon
  refine hcon.mono ?_
  rintro e w' ⟨rfl, d', n, os, hp, hs, rfl⟩
  have hsz : d'.size = l.length := by rw [hp.1, arr_size]
  have hperm : (d'.toList.map Subtype.val).Perm l := by
    have h3 := hp.2.2
    rw [extract_all d' _ hsz.symm, extract_all _ _ (arr_size l h.ok).symm] at h3
    have := h3.map Subtype.val
    rwa [arr_list] at this
  have get : ∀ i (hi : i < (d'.toList.map Subtype.val).length), (d'.toList.map Subtype.val)[i] = d'[i]!.1 := fun i hi => by
    rw [List.getElem_map, getElem!_pos d' i (by simpa using hi)]
    rfl
  have hlen : (d'.toList.map Subtype.val).length = l.length := by rw [List.length_map, Array.length_toList, hsz]
  have hok : OkR (d'.toList.map Subtype.val) := fun a ha => h.ok a (hperm.mem_iff.1 ha)
  have hd' : (d'.toList.map Subtype.val).Pairwise (fun a b => a.k ≠ b.k) := (hperm.pairwise_iff (fun {a b} (h : a.k ≠ b.k) => h.symm)).2 hd
  refine ⟨rfl, d'.toList.map Subtype.val, ⟨hok, fun a ha => hr a (hperm.mem_iff.1 ha), ?_⟩, fun a => hperm.mem_iff, ?_, sortW_only w g n d' os⟩
  · refine List.pairwise_iff_getElem.2 (fun i j hi hj hij => ?_)
    have h1 := hs i j (Nat.zero_le _) hij (by rw [hlen] at hj; exact hj)
    rw [ltA, ← get i hi, ← get j hj] at h1
    have h1 := of_decide_eq_false h1
    have h2 := List.pairwise_iff_getElem.1 hd' i j hi hj hij
    have h3 : (d'.toList.map Subtype.val)[i].k.kn ≠ (d'.toList.map Subtype.val)[j].k.kn := fun e => h2 (kn_inj (hok _ (List.getElem_mem _)).k (hok _ (List.getElem_mem _)).k e)
    omega
  · refine ⟨hok, hlen, hcap.1, hcap.2, fun _ => ⟨g, 0, rfl, ?_, fun i hi c v hv => ?_⟩⟩
    · exact Nat.lt_of_lt_of_le hg (sortW_only w g n d' os).size
    · have hsw : SWK enA 21 w g 0 d' (sortWorldK enA 21 w g 0 n d' os) := ⟨n, os, rfl⟩
      have hh := hsw.holds hg hH (by rw [hsz, arr_size])
      have hc : c < 21 := by
        have h1 := (List.getElem?_eq_some_iff.1 hv).1
        rw [acells_len (hok _ (List.getElem_mem hi))] at h1
        exact h1
      have h5 := (HoldsK.cell hh (i := i) (c := c) (by rw [hsz]; rw [hlen] at hi; exact hi) hc).1
      rw [h5]
      rw [get i hi] at hv
      obtain ⟨h6, h7⟩ := List.getElem?_eq_some_iff.1 hv
      unfold enA
      rw [getElem!_pos _ c h6, h7]
end Go.Proofs.YtijfbhdbfplghaaGreat
namespace Go.Proofs.YtijfbhdbfplghaaGreat
open Go.RowKit
/-- What has been gathered, and what is still to come. -/
structure CI (f g : Ky → Option Vl) (out : List Am) : Prop where
  all : ∀ k v, f k = some v ↔ g k = some v ∨ (⟨k, v⟩ : Am) ∈ out
  no : ∀ a ∈ out, g a.k = none
  dist : out.Pairwise (fun a b => a.k ≠ b.k)
theorem CI.start (f : Ky → Option Vl) : CI f f [] := ⟨fun _ _ => ⟨.inl, fun h => h.elim id (fun h => by cases h)⟩, fun _ h => (by cases h), List.Pairwise.nil⟩
theorem CI.step {f g : Ky → Option Vl} {out : List Am} (h : CI f g out) {k : Ky} {v : Vl} (hg : g k = some v) : CI f (del g k) (out ++ [⟨k, v⟩]) := by
  refine ⟨fun x u => ?_, fun a ha => ?_, ?_⟩
  · rw [h.all]
    unfold del
    by_cases e : x = k
    · subst e
      rw [hg]
      simp only [if_true, List.mem_append, List.mem_singleton]
      constructor
      · rintro (e | e)
        · cases e; exact .inr (.inr rfl)
        · exact .inr (.inl e)
      · rintro (e | e | e)
        · cases e
        · exact .inr e
        · injection e with _ e; left; rw [e]
    · simp only [if_neg e, List.mem_append, List.mem_singleton]
      constructor
      · rintro (h1 | h1)
        · exact .inl h1
        · exact .inr (.inl h1)
      · rintro (h1 | h1 | h1)
        · exact .inl h1
        · exact .inr h1
        · injection h1 with h1; exact absurd h1 e
  · unfold del
    rcases List.mem_append.1 ha with ha | ha
    · split
      · rfl
      · exact h.no a ha
    · obtain rfl := List.mem_singleton.1 ha
      simp
  · refine List.pairwise_append.2 ⟨h.dist, List.pairwise_singleton _ _, fun a ha b hb e => ?_⟩
    obtain rfl := List.mem_singleton.1 hb
    have := h.no a ha
    rw [e, hg] at this
    cases this
theorem CI.ok {f g : Ky → Option Vl} {out : List Am} (h : CI f g out) (hf : OkF f) : ∀ a ∈ out, a.right = true := fun a ha => hf.r a.k a.v ((h.all a.k a.v).2 (.inr ha))
theorem CI.done {l : List Am} (hl : OkR l) {g : Ky → Option Vl} {out s : List Am} (h : CI (gt l) g out) (hg : ∀ k, g k = none) (hs : St s) (hm : ∀ a, a ∈ s ↔ a ∈ out) : s = norm l := by
  refine norm_eq hs hl (fun k => ?_)
  have e : fnd s k = gt l k := by
    cases e1 : gt l k with
    | none =>
      cases e2 : fnd s k with
      | none => rfl
      | some v =>
        have := (h.all k v).2 (.inr ((hm _).1 (fnd_mem e2)))
        rw [e1] at this; cases this
    | some v =>
      rcases (h.all k v).1 e1 with h1 | h1
      · rw [hg] at h1; cases h1
      · exact fnd_of_mem hs ((hm _).2 h1)
  rw [e]
theorem RangeF.only {w w' : World} {x b r n : Nat} {f g : Ky → Option Vl} {cnt : Nat} (h : RangeF w b r n f g cnt) (ho : Only x w w') (hb : b ≠ x) (hr : r ≠ x) : RangeF w' b r n f g cnt :=
  h.kept (row := some x) ⟨ho.os, ho.tape, ho.output, ho.size, fun k hk hn => ho.block k hk (fun e => hn (by rw [e]))⟩ (fun e => hb (Option.some.inj e)) (fun e => hr (Option.some.inj e))
theorem wpList_fits {ops : Array Oper} {rest : List Oper} {op : Oper} {a : Act} {w : World} {Q : Exit → Act → World → Prop} (hgd : op.guard = none) (s x : Operand) (ho : op.op = .call { callee := .builtin .append, args := #[s, x], argTypes := #[22, 22] })
    (B g k cap : Nat) (l : List Am) (A : Am) (g1 : Nat) (hs : a.eval s = .slice (some ⟨g, 0, none⟩) k cap) (hx : a.eval x = .slice (some ⟨g1, 0, none⟩) 1 1) (hown : OwnR w B (.slice (some ⟨g, 0, none⟩) k cap) l) (hk : k = l.length) (hA : A.Ok) (hgb : Blk w g1 58 A.cells) (hfit : k + 1 ≤ cap)
    (h : ∀ m w', Hid (m = k + 1) → Hid (OwnR w' B (.slice (some ⟨g, 0, none⟩) m cap) (l ++ [A])) → Hid (Only g w w') → wpList Tryz.prog ops Q rest (a.put op.dst (.slice (some ⟨g, 0, none⟩) m cap)) w') : wpList Tryz.prog ops Q (op :: rest) a w := by
  obtain ⟨i0, hi, hz0, hz1, hz2⟩ := info_parts info46z
  refine wpList_append_fits w hgd s x 22 ho B 58 i0 21 Tryz.underlying22 hi hz1 g k cap (acs l) hs (hk ▸ hown.row) ⟨g1, 0, none⟩ 1 1 A.cells hx (by rw [acells_len hA]) (fun j u hj => by
      have h := hgb.range j u hj
      rw [Nat.zero_add] at h
      unfold Addr.add
      split
      · rename_i h0; rw [h0] at h; exact h
      · simpa using h) (all_list (one32 A)) hfit ?_
  intro w' h1 h2
  refine h (k + 1) w' (Lib.hid rfl) (Lib.hid ⟨hown.ok.app (okR_nil.cons hA), ?_⟩) (Lib.hid ⟨h2.os, h2.tape, h2.output, h2.size, fun j hj hn => h2.block j hj (fun e => hn (Option.some.inj e))⟩)
  rw [acs_app, acs_one, List.length_append, List.length_singleton, ← hk]
  exact h1
set_option maxRecDepth 100000 in
set_option maxHeartbeats 4000000 in
theorem sorted_isO (b : Nat) (l : List Am) (w : World) (h : MapF w b 1000 (gt l)) (hl : OkR l) : Calls Tryz.prog 107 #[.map (some b)] w (GivesO w (norm l)) := by
  obtain ⟨i0, hi, hz0, hz1, hz2⟩ := info_parts info46z
  have hk0 := zero27
  have hv0 := zero30
  have hlen := run_lenF h
  have hsl := h.msize_le
  obtain ⟨s, hs⟩ : ∃ s, msize w b = s := ⟨_, rfl⟩
  rw [hs] at hlen hsl
  have HS := Lib.hid hs
  have HL := Lib.hid hl
  have H := Lib.hid h
  have BL := Lib.hid h.lt
  obtain ⟨f, hf⟩ : ∃ f, gt l = f := ⟨_, rfl⟩
  have HF := Lib.hid hf
  rw [hf] at H
  clear hs hl h hf
  go_enter Tryz.func107, Tryz.ntmps107
  go_wp2_with (first
    | go_skip
    | (at_make; refine wpList_make_own _ rfl _ _ 22 rfl w.heap.size 58 i0 (.agg azero.cells.toArray) 21 Tryz.underlying22 hi hz0 hz1 .i64 .i64 _ s rfl rfl (by first | rfl | omega) (by rw [hz2]; omega) (by unfold maxLen; omega) (Nat.le_refl _) ?_; intro w1 own1 g1)
    | (refine wpList_rangeF rfl _ rfl b 1000 f rfl (H.out.kept g1 (by simp)) ?_; intro r w2 cnt er R2 ec B2))
  have W1 := Lib.hid (show Below w.heap.size w w1 from ⟨g1.os, g1.tape, g1.output, g1.size, fun k hk => g1.block k hk (by simp)⟩)
  have O1 := Lib.hid (show OwnR w1 w.heap.size (.slice (some ⟨w.heap.size, 0, none⟩) 0 s) [] from ⟨okR_nil, own1⟩)
  have RL := Lib.hid (show w.heap.size < r by have := er.out; have := (O1.out.row.lt w.heap.size rfl).2; omega)
  have CN := Lib.hid (show cnt = s by rw [ec.out, msize_below W1.out BL.out, HS.out])
  clear own1 g1
  simp only [Act.put, List.setIfInBounds_toArray, List.set_cons_succ, List.set_cons_zero]
  go_loopw [3] (fun v wr => ∃ (gg : Ky → Option Vl) (cnt : Nat) (out : List Am) (m : Nat), v = .slice (some ⟨w.heap.size, 0, none⟩) m s ∧ m = out.length ∧ OwnR wr w.heap.size (.slice (some ⟨w.heap.size, 0, none⟩) m s) out ∧ RangeF wr b r 1000 f gg cnt ∧ CI f gg out ∧ m + cnt ≤ s ∧ Below w.heap.size w wr) (fun _ wr => wr.rangeLeft b r)
  case atStart => exact ⟨f, cnt, [], 0, rfl, rfl, O1.out.below B2.out, R2.out, CI.start f, by rw [CN.out]; omega, step_ W1.out B2.out⟩
  case round =>
    obtain ⟨gg, cnt, out, m, rfl, hm, ho, hr, hc, hle, hb⟩ := hrel
    have OO := Lib.hid ho
    have RR := Lib.hid hr
    have CC := Lib.hid hc
    have BB := Lib.hid hb
    have HM := Lib.hid hm
    have LE := Lib.hid hle
    clear ho hr hc hb hm hle
    go_wp2_with (first
      | go_skip
      | refine wpList_nextF rfl _ rfl b r 1000 f gg cnt rfl RR.out ?_ ?_)
    · intro h0
      go_wp2_with fail
      have e := HM.out
      subst e
      refine (sort_is w.heap.size s w.heap.size out _ OO.out (CC.out.ok RR.out.ok) CC.out.dist (by have := LE.out; omega)).mono ?_
      rintro e w5 ⟨rfl, t, ht, hmem, hrow, ho5⟩
      have R5 := Lib.hid hrow
      have B5 := Lib.hid (BB.out.trans (ho5.below (Nat.le_refl _) BB.out.size))
      have T5 := Lib.hid (show t = norm l from CI.done HL.out (HF.out ▸ CC.out) h0.out ht hmem)
      clear ht hmem hrow ho5
      go_wp2_with fail
      go_ret
      exact ⟨⟨_, _, _, rfl, by rw [← T5.out]; exact R5.out, fun G off e => by cases e; exact Nat.le_refl _⟩, B5.out⟩
    · intro k v w1 cnt1 hg R1 lt1 N1 sz1 hen
      have VK := Lib.hid (RR.out.ok.k _ _ (RR.out.sub _ _ hg.out))
      have VV := Lib.hid (RR.out.ok.v _ _ (RR.out.sub _ _ hg.out))
      have Z1 := Lib.hid ((blk_alloc w1 53 kzero.cells).alloc (.cells vzero.cells.toArray 56))
      have Z2 := Lib.hid (blk2 w1 (.cells kzero.cells.toArray 53) 56 vzero.cells)
      have OW := Lib.hid (OO.out.only N1.out (.inr (fun j hj => by have e : w.heap.size = j := Option.some.inj hj; have := RL.out; omega)))
      have W1' := Lib.hid (show w.heap.size < w1.heap.size by have := (OW.out.row.lt w.heap.size rfl).2; exact this)
      have FT := Lib.hid (show m + 1 ≤ s by have := LE.out; have := lt1.out; omega)
      have CN := Lib.hid (CC.out.step hg.out)
      have BLr := Lib.hid (show b < w1.heap.size by have := BL.out; have := W1'.out; omega)
      go_wp2_with (first
        | go_skip
        | (refine wpList_store_ky rfl _ _ rfl w1.heap.size kzero k rfl rfl Z1.out kzero_ok.ml VK.out.ml ?_; intro w2 N2 P2; have Z3 := Lib.hid (Z2.out.only P2.out (by omega)))
        | (refine wpList_store_vl rfl _ _ rfl (w1.heap.size + 1) vzero v rfl rfl Z3.out rfl VV.out.tl ?_; intro w3 N3 P3; have B3 := Lib.hid (show Below w1.heap.size w1 w3 from (step_ (new_below w1 (.cells kzero.cells.toArray 53)) (new_below _ (.cells vzero.cells.toArray 56))).trans ((P2.out.below (Nat.le_refl _) (by simp; omega)).trans (P3.out.below (Nat.le_succ _) (by have := P2.out.size; simp at this; omega)))))
        | refine wpList_load_ky rfl _ rfl w1.heap.size 0 k rfl (N2.out.only P3.out (by omega)).range VK.out.ml ?_
        | refine wpList_load_vl rfl _ rfl (w1.heap.size + 1) 0 v rfl N3.out.range VV.out.tl ?_
        | refine wpList_build rfl 58 _ rfl [(0, .agg k.cells.toArray), (1, .agg v.cells.toArray)] rfl _ (built46 k v VK.out.ml VV.out.tl) ?_
        | (refine wpList_one46 rfl _ rfl ⟨k, v⟩ rfl ⟨VK.out, VV.out⟩ ?_; intro g4 w4 e4 N4 B4)
        | (refine wpList_fits rfl _ _ rfl w.heap.size w.heap.size m s out ⟨k, v⟩ g4 rfl rfl (OW.out.below (step_ B3.out B4.out)) HM.out ⟨VK.out, VV.out⟩ N4.out FT.out ?_; intro m5 w5 e5 O5 P5))
      have R5 := Lib.hid ((R1.out.below (step_ B3.out B4.out)).only P5.out (by have := BL.out; omega) (by have := RL.out; omega))
      have B5 := Lib.hid ((BB.out.trans (N1.out.below (Nat.le_of_lt RL.out) BB.out.size)).trans (((step_ B3.out B4.out).mono (Nat.le_of_lt W1'.out)).trans (P5.out.below (Nat.le_refl _) (Nat.le_of_lt (Nat.lt_of_lt_of_le W1'.out (Nat.le_trans B3.out.size B4.out.size))))))
      go_roundw
      case rel => exact ⟨del gg k, cnt1, out ++ [⟨k, v⟩], m5, rfl, by rw [e5.out, HM.out, List.length_append, List.length_singleton], O5.out, R5.out, CN.out, by have := e5.out; have := LE.out; have := lt1.out; omega, B5.out⟩
      case measure => rw [R5.out.left_eq, RR.out.left_eq]; exact lt1.out
end Go.Proofs.YtijfbhdbfplghaaGreat
namespace Go.Proofs.YtijfbhdbfplghaaGreat
open Go.RowKit
theorem acs_cells {w : World} {G off : Nat} {l : List Am} (hl : OkR l) (h : ∀ i (hi : i < l.length), w.rangeAt G (off + i * 21) l[i].cells) : ∀ j u, (acs l)[j]? = some u → w.cell? ⟨G, off + j, none⟩ = some u := by
  intro j u hj
  have hlt : j < l.length * 21 := by rw [← acs_len hl]; exact (List.getElem?_eq_some_iff.1 hj).1
  have hi : j / 21 < l.length := by omega
  have hlen := acells_len (hl _ (List.getElem_mem hi))
  have hv : l[j / 21].cells[j % 21]? = some (l[j / 21].cells[j % 21]'(by omega)) := List.getElem?_eq_getElem (by omega)
  have h1 := acs_get hl _ hi (j % 21) _ hv
  rw [show j / 21 * 21 + j % 21 = j by omega, hj] at h1
  have h2 := h _ hi (j % 21) _ hv
  rw [← h1, Nat.add_assoc, show j / 21 * 21 + j % 21 = j by omega] at h2
  exact h2
theorem run_none46 (w : World) : (Instr.buildSlice 22 0 #[]).run Tryz.prog w = .ok (.slice (some ⟨w.heap.size, 0, none⟩) 0 0) (w.alloc (.cells #[] 58)) := by
  simp only [Instr.buildSlice, Sem.run_bind, run_underlying Tryz.underlying22, Result.andThen_ok, sizeOf49]
  rw [if_neg (by decide), if_pos (by decide)]
  have e : ∀ g : Nat → Value, Array.map g (Array.range (0 * 21)) = #[] := fun g => by simp
  simp only [e, Instr.fill, Sem.run_bind, Sem.run_pure, Result.andThen_ok]
  rfl
set_option maxRecDepth 100000 in
set_option maxHeartbeats 2000000 in
theorem clone_isO (A : Option Addr) (n cap : Nat) (l : List Am) (w : World) (h : RowV w A n cap l) (hn : n ≤ 1000) : Calls Tryz.prog 89 #[.slice A n cap] w (GivesO w l) := by
  have hb := run_none46
  have hq : ∀ (W : World) (a : Option Addr) (n c : Nat), (binOp .eql 22 (.slice a n c) (.slice none 0 0)).run Tryz.prog W = .ok (.bool a.isNone) W := fun W a n c => Lib.run_eql_slice_nil W _ _ _ _ _ _ _ Tryz.underlying22
  cases A with
  | none =>
    have h0 : n = 0 := by
      by_cases e : n = 0
      · exact e
      · obtain ⟨G, off, e2, _⟩ := h.at_ (by omega)
        cases e2
    have hl : l = [] := List.eq_nil_of_length_eq_zero (by rw [h.len, h0])
    have HL := Lib.hid hl
    clear h h0 hl
    go_enter Tryz.func89, Tryz.ntmps89
    go_wp2_with fail
    go_ret
    exact ⟨⟨none, 0, 0, rfl, by rw [HL.out]; exact ⟨okR_nil, rfl, Nat.le_refl _, Nat.zero_le _, fun h => absurd h (Nat.lt_irrefl _)⟩, fun G off e => by cases e⟩, Below.refl _ _⟩
  | some ad =>
    obtain ⟨i0, hi, hz0, hz1, hz2⟩ := info_parts info46z
    have H := Lib.hid h
    have O0 := Lib.hid (World.ownsRow_made (base := w.heap.size) (e := 58) (size := 21) w #[] 0 (Nat.le_refl _) (Nat.zero_le _) (by rfl))
    have B0 := Lib.hid (new_below w (.cells #[] 58))
    have HC := Lib.hid (show ∀ j u, (acs l)[j]? = some u → (w.alloc (.cells #[] 58)).cell? (ad.add j) = some u from fun j u hj => by
      have hlt : j < l.length * 21 := by rw [← acs_len h.ok]; exact (List.getElem?_eq_some_iff.1 hj).1
      obtain ⟨G, off, e, hG, hr⟩ := h.at_ (by have := h.len; omega)
      cases e
      have h1 := acs_cells h.ok hr j u hj
      have h2 := ((new_below w (.cells #[] 58)).cell (p := ⟨G, off + j, none⟩) hG).trans h1
      unfold Addr.add
      split
      · rename_i h0; rw [h0] at h2; exact h2
      · exact h2)
    clear h
    go_enter Tryz.func89, Tryz.ntmps89
    go_wp2_with (first
      | go_skip
      | (refine wpList_append_own _ rfl _ _ 22 rfl w.heap.size 58 i0 (.agg azero.cells.toArray) 21 40 Tryz.underlying22 hi hz0 hz1 hz2 (by rfl) (by decide) _ 0 [] rfl O0.out ad n cap (acs l) rfl (by rw [acs_len H.out.ok, H.out.len]) HC.out (acs_ones l) (by unfold maxLen; omega) (by omega) (by simp) ?_; intro v1 w1 o1 g1 _))
    have O1 := Lib.hid (show OwnR w1 w.heap.size v1 l from ⟨H.out.ok, by have := o1; rw [Nat.zero_add, List.nil_append, ← H.out.len] at this; exact this⟩)
    have B1 := Lib.hid (B0.out.trans ((Below.refl w.heap.size _).grown g1 (by simp) (fun k hk => (O0.out.lt k hk).1)))
    clear o1 g1
    go_wp2_with fail
    go_ret
    exact GivesO.own O1.out B1.out
set_option maxRecDepth 100000 in
set_option maxHeartbeats 2000000 in
theorem all_isO (A : Option Addr) (n cap : Nat) (ls : List (List Am)) (w : World) (h : RowsV w A n cap ls) (hf : FewR ls) : Calls Tryz.prog 90 #[.slice A n cap] w (GivesO w (norm ls.flatten)) := by
  have H := Lib.hid h
  have FF := Lib.hid hf
  clear h hf
  go_enter Tryz.func90, Tryz.ntmps90
  go_wp2_with fail
  refine (collect_is A n cap ls _ H.out FF.out).mono ?_
  rintro e w1 ⟨⟨b, rfl, _, m1⟩, b1⟩
  have M1 := Lib.hid m1
  have B1 := Lib.hid b1
  clear m1 b1
  go_wp2_with fail
  refine (sorted_isO b ls.flatten _ M1.out (okR_flat H.out.ok)).mono ?_
  rintro e w2 ⟨⟨D, m, c, rfl, r2, f2⟩, b2⟩
  have F2 := Lib.hid f2
  have R2 := Lib.hid r2
  have B2 := Lib.hid b2
  clear r2 b2 f2
  go_wp2_with fail
  go_ret
  exact ⟨⟨D, m, c, rfl, R2.out, fun G off e => Nat.le_trans B1.out.size (F2.out G off e)⟩, step_ B1.out B2.out⟩
/-- Rows that the call lays itself. -/
theorem rows_one {w : World} {A : Option Addr} {n c : Nat} {a : List Am} (h : RowV w A n c a) : RowsV (w.alloc (.cells #[.slice A n c] 22)) (some ⟨w.heap.size, 0, none⟩) 1 1 [a] := by
  refine ⟨rfl, Nat.le_refl _, by decide, fun _ => ⟨w.heap.size, 0, rfl, by simp, fun i hi => ?_⟩⟩
  obtain rfl : i = 0 := by omega
  have hb := blk_alloc w 22 [.slice A n c]
  exact ⟨A, n, c, hb.cell rfl, h.below (new_below w _)⟩
set_option maxRecDepth 100000 in
set_option maxHeartbeats 2000000 in
theorem norm_isO (A : Option Addr) (n cap : Nat) (l : List Am) (w : World) (h : RowV w A n cap l) (hn : n ≤ 600) : Calls Tryz.prog 74 #[.slice A n cap] w (GivesO w (norm l)) := by
  have H := Lib.hid h
  clear h
  cases hr : rightR l with
  | true =>
    have HR := Lib.hid hr
    clear hr
    go_enter Tryz.func74, Tryz.ntmps74
    go_wp2_with fail
    refine (rightR_is A n cap l true _ H.out (by omega) HR).mono ?_
    rintro e w1 ⟨rfl, b1⟩
    have B1 := Lib.hid b1
    clear b1
    go_wp2_with fail
    refine (clone_isO A n cap l _ (H.out.below B1.out) (by omega)).mono ?_
    rintro e w2 ⟨⟨D, m, c, rfl, r2, f2⟩, b2⟩
    have F2 := Lib.hid f2
    have R2 := Lib.hid r2
    have B2 := Lib.hid b2
    clear r2 b2 f2
    go_wp2_with fail
    go_ret
    exact ⟨⟨D, m, c, rfl, by rw [norm_right H.out.ok HR.out]; exact R2.out, fun G off e => Nat.le_trans B1.out.size (F2.out G off e)⟩, step_ B1.out B2.out⟩
  | false =>
    have HR := Lib.hid hr
    clear hr
    go_enter Tryz.func74, Tryz.ntmps74
    go_wp2_with fail
    refine (rightR_is A n cap l false _ H.out (by omega) HR).mono ?_
    rintro e w1 ⟨rfl, b1⟩
    have B1 := Lib.hid b1
    have RR := Lib.hid (rows_one (H.out.below b1))
    have FF := Lib.hid (show FewR [l] from ⟨by simp, by simp; have := H.out.len; omega⟩)
    have HJ := Lib.hid (show norm [l].flatten = norm l by simp)
    have B0 := Lib.hid (new_below w1 (.cells #[.slice A n cap] 22))
    clear b1
    go_wp2_with fail
    refine (all_isO _ _ _ [l] _ RR.out FF.out).mono ?_
    rintro e w2 ⟨⟨D, m, c, rfl, r2, f2⟩, b2⟩
    have F2 := Lib.hid f2
    have R2 := Lib.hid r2
    have B2 := Lib.hid b2
    clear r2 b2 f2
    go_wp2_with fail
    go_ret
    exact ⟨⟨D, m, c, rfl, by rw [← HJ.out]; exact R2.out, fun G off e => Nat.le_trans (Nat.le_trans B1.out.size B0.out.size) (F2.out G off e)⟩, step_ B1.out (step_ B0.out B2.out)⟩
end Go.Proofs.YtijfbhdbfplghaaGreat
namespace Go.Proofs.YtijfbhdbfplghaaGreat
open Go.RowKit
end Go.Proofs.YtijfbhdbfplghaaGreat
namespace Go.Proofs.YtijfbhdbfplghaaGreat
open Go.RowKit
structure FS (w : World) (k : Ky) (W : World) : Prop where
  bel : Below w.heap.size w W
  key : Blk W w.heap.size 53 k.cells
  res : Blk W (w.heap.size + 1) 56 vzero.cells
theorem FS.below {w : World} {k : Ky} {W W' : World} (h : FS w k W) (hb : Below W.heap.size W W') : FS w k W' := ⟨step_ h.bel hb, h.key.below hb, h.res.below hb⟩
theorem FS.only {w : World} {k : Ky} {W W' : World} {g : Nat} (h : FS w k W) (hb : Only g W W') (hg : w.heap.size + 1 < g) : FS w k W' := ⟨h.bel.trans (hb.below (by omega) h.bel.size), h.key.only hb (by omega), h.res.only hb (by omega)⟩
end Go.Proofs.YtijfbhdbfplghaaGreat
namespace Go.Proofs.YtijfbhdbfplghaaGreat
open Go.RowKit Go.Maps
end Go.Proofs.YtijfbhdbfplghaaGreat
