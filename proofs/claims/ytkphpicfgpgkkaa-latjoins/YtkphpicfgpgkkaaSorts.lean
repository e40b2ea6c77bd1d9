/- The contract of SortFunc at atoms. -/
import Derived.Test.YtkphpicfgpgkkaaCompare
namespace Go.Proofs.Ytkphpicfgpgkkaa
open Go.RowKit Go.Sort

/-- An atom whose fields fit. -/
abbrev Ao := { a : Am // a.Ok }
instance : Inhabited Ao := ⟨⟨azero, azero_ok⟩⟩
def enA (x : Ao) : List Value := x.1.cells
def cfA (x y : Ao) : Int := cmpAm x.1 y.1
theorem ltA (x y : Ao) : ltOf cfA x y = decide (x.1.k.kn < y.1.k.kn) := by
  unfold ltOf cfA cmpAm
  rw [cmp3_less, ← less_kn x.2.k y.2.k]
  rfl
theorem swoA : SWO (ltOf cfA) where
  irrefl x := by rw [ltA]; simp
  trans x y z h1 h2 := by rw [ltA] at *; simp only [decide_eq_true_eq] at *; omega
  ntrans x y z h1 h2 := by rw [ltA] at *; simp only [decide_eq_false_iff_not] at *; omega
theorem cmpLays54 (blk off size : Nat) (w : World) : CmpLays Try.prog 54 #[] enA 21 cfA blk off size w := fun m os dk _ x y =>
  (cmpAm_is x.1 y.1 (sortWorldK enA 21 w blk off m dk os) x.2 y.2).mono fun _ _ h => ⟨h.1, h.2.grow⟩
def arrL : (l : List Am) → OkR l → List Ao
  | [], _ => []
  | a :: l, h => ⟨a, h.head⟩ :: arrL l h.tail
theorem arrL_map : ∀ (l : List Am) (h : OkR l), (arrL l h).map Subtype.val = l
  | [], _ => rfl
  | a :: l, h => by rw [arrL, List.map_cons, arrL_map l h.tail]
def arr (l : List Am) (h : OkR l) : Array Ao := (arrL l h).toArray
theorem arr_size (l : List Am) (h : OkR l) : (arr l h).size = l.length := by
  have := congrArg List.length (arrL_map l h)
  rw [List.length_map] at this
  exact this
theorem arr_get (l : List Am) (h : OkR l) (i : Nat) (hi : i < l.length) : ((arr l h)[i]!).1 = l[i] := by
  have hs := arr_size l h
  rw [getElem!_pos _ i (by rw [hs]; exact hi)]
  have e : ((arrL l h).map Subtype.val)[i]? = l[i]? := by rw [arrL_map]
  rw [List.getElem?_map, List.getElem?_eq_getElem hi, List.getElem?_eq_getElem (by rw [← hs] at hi; exact hi)] at e
  exact Option.some.inj e
theorem arr_list (l : List Am) (h : OkR l) : (arr l h).toList.map Subtype.val = l := arrL_map l h
theorem extract_all (d : Array Ao) (n : Nat) (h : n = d.size) : (d.extract 0 n).toList = d.toList := by subst h; simp
theorem ownR_holds {w : World} {B g cap : Nat} {l : List Am} (h : OwnR w B (.slice (some ⟨g, 0, none⟩) l.length cap) l) : HoldsK enA 21 w g 0 (arr l h.ok) := by
  rcases h.row.2 with ⟨e, _⟩ | ⟨g', cap', cur, e, hb, hg, hn, hc, hs, ht⟩
  · cases e
  · injection e with e1 e2 e3
    injection e1 with e1
    injection e1 with e1
    subst e1
    intro t ht'
    rw [size_flatK, arr_size] at ht'
    rw [get_flatK _ _ _ t (by rw [arr_size]; exact ht')]
    have hi : t / 21 < l.length := by omega
    have hj : t % 21 < 21 := by omega
    have e4 : enA (arr l h.ok)[t / 21]! = l[t / 21].cells := by unfold enA; rw [arr_get l h.ok _ hi]
    have hlen := acells_len (h.ok _ (List.getElem_mem hi))
    rw [e4]
    have hv : l[t / 21].cells[t % 21]? = some (l[t / 21].cells[t % 21]!) := by
      rw [List.getElem?_eq_getElem (by omega), getElem!_pos _ _ (by omega)]
    have h1 := acs_get h.ok _ hi (t % 21) _ hv
    rw [show t / 21 * 21 + t % 21 = t by omega, ← ht, List.getElem?_take_of_lt ht'] at h1
    refine ⟨?_, ?_⟩
    · rw [cell_of_row _ g _ cur 46 (0, 0) hg, Nat.zero_add]
      simpa using h1
    · unfold World.frozen?
      simp [hg]
theorem sortW_only (w : World) (g : Nat) (n : Nat) (d : Array Ao) (os : Array Obj) : Only g w (sortWorldK enA 21 w g 0 n d os) := by
  have hb : ∀ k, k < w.heap.size → k ≠ g → (sortWorldK enA 21 w g 0 n d os).heap[k]? = w.heap[k]? := by
    intro k hk hn
    unfold sortWorldK putRowK putRow mapBlock grow Go.Sort.ahead
    simp only
    rw [Array.getElem?_append_left (by simpa using hk), Array.getElem?_modify, if_neg (fun e => hn e.symm)]
  refine ⟨rfl, rfl, rfl, ?_, hb⟩
  unfold sortWorldK putRowK
  rw [size_grow, size_putRow]
  show w.heap.size ≤ w.heap.size + os.size
  omega
/-- What the sort leaves: a state, if no key was there twice. -/
theorem sort_is (g cap : Nat) (B : Nat) (l : List Am) (w : World) (h : OwnR w B (.slice (some ⟨g, 0, none⟩) l.length cap) l) (hr : ∀ a ∈ l, a.right = true) (hd : l.Pairwise (fun a b => a.k ≠ b.k)) (hn : l.length ≤ 5000) :
    Calls Try.prog 53 #[.slice (some ⟨g, 0, none⟩) l.length cap, .func (.func 54) #[] #[]] w fun e w' => e = .returned (.tuple #[]) ∧ ∃ s, St s ∧ (∀ a, a ∈ s ↔ a ∈ l) ∧ RowV w' (some ⟨g, 0, none⟩) l.length cap s ∧ Only g w w' := by
  have hH := ownR_holds h
  have hg : g < w.heap.size := (h.row.lt g rfl).2
  have eg : ∀ args w, (callFunc 54 args).run Try.prog w = .ok (.enter 54 args) w := enters_of Try.func54 (by kernel_rfl) rfl
  have hcap : l.length ≤ cap ∧ cap ≤ maxLen := by
    rcases h.row.2 with ⟨e, _⟩ | ⟨g', cap', cur, e, _, _, h1, h2, _⟩
    · cases e
    · injection e with e1 e2 e3; subst e3; exact ⟨h1, h2⟩
  have hcon := AnyQ.slices_SortFunc Try.sortAm 21 Try.isAgg46 sizeOf46 enA (fun x => acells_len x.2) (fun x => all_list (one32 x.1)) cfA swoA 54 #[] g 0 cap (arr l h.ok) w eg (cmpLays54 g 0 _ w) hH hg (by rw [arr_size]; omega)
  rw [arr_size] at hcon
  refine hcon.mono ?_
  rintro e w' ⟨rfl, d', n, os, hp, hs, rfl⟩
  have hsz : d'.size = l.length := by rw [hp.1, arr_size]
  have hperm : (d'.toList.map Subtype.val).Perm l := by
    have h3 := hp.2.2
    rw [extract_all d' _ hsz.symm, extract_all _ _ (arr_size l h.ok).symm] at h3
    have := h3.map Subtype.val
    rwa [arr_list] at this
  have get : ∀ i (hi : i < (d'.toList.map Subtype.val).length), (d'.toList.map Subtype.val)[i] = d'[i]!.1 := fun i hi => by
    rw [List.getElem_map, getElem!_pos d' i (by simpa using hi)]
    rfl
  have hlen : (d'.toList.map Subtype.val).length = l.length := by rw [List.length_map, Array.length_toList, hsz]
  have hok : OkR (d'.toList.map Subtype.val) := fun a ha => h.ok a (hperm.mem_iff.1 ha)
  have hd' : (d'.toList.map Subtype.val).Pairwise (fun a b => a.k ≠ b.k) := (hperm.pairwise_iff (fun {a b} (h : a.k ≠ b.k) => h.symm)).2 hd
  refine ⟨rfl, d'.toList.map Subtype.val, ⟨hok, fun a ha => hr a (hperm.mem_iff.1 ha), ?_⟩, fun a => hperm.mem_iff, ?_, sortW_only w g n d' os⟩
  · refine List.pairwise_iff_getElem.2 (fun i j hi hj hij => ?_)
    have h1 := hs i j (Nat.zero_le _) hij (by rw [hlen] at hj; exact hj)
    rw [ltA, ← get i hi, ← get j hj] at h1
    have h1 := of_decide_eq_false h1
    have h2 := List.pairwise_iff_getElem.1 hd' i j hi hj hij
    have h3 : (d'.toList.map Subtype.val)[i].k.kn ≠ (d'.toList.map Subtype.val)[j].k.kn := fun e => h2 (kn_inj (hok _ (List.getElem_mem _)).k (hok _ (List.getElem_mem _)).k e)
    omega
  · refine ⟨hok, hlen, hcap.1, hcap.2, fun _ => ⟨g, 0, rfl, ?_, fun i hi c v hv => ?_⟩⟩
    · exact Nat.lt_of_lt_of_le hg (sortW_only w g n d' os).size
    · have hsw : SWK enA 21 w g 0 d' (sortWorldK enA 21 w g 0 n d' os) := ⟨n, os, rfl⟩
      have hh := hsw.holds hg hH (by rw [hsz, arr_size])
      have hc : c < 21 := by
        have h1 := (List.getElem?_eq_some_iff.1 hv).1
        rw [acells_len (hok _ (List.getElem_mem hi))] at h1
        exact h1
      have h5 := (HoldsK.cell hh (i := i) (c := c) (by rw [hsz]; rw [hlen] at hi; exact hi) hc).1
      rw [h5]
      rw [get i hi] at hv
      obtain ⟨h6, h7⟩ := List.getElem?_eq_some_iff.1 hv
      unfold enA
      rw [getElem!_pos _ c h6, h7]
end Go.Proofs.Ytkphpicfgpgkkaa
