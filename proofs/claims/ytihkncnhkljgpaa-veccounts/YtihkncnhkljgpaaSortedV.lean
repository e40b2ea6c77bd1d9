/- The contract of SortFunc of slices at vectors, laid by the guide's own tool in plain words. The contract of SortFunc at vectors. -/
import Derived.Test.YtihkncnhkljgpaaProg
import Derived.Shelf.SlSortCmp.WholeK
import Derived.Test.YtihkncnhkljgpaaCompareV
import Derived.Test.YtihkncnhkljgpaaGRows
namespace Go.Proofs
open Go.Shelf
def Try.sortVec_ren : Go.Shelf.Ren := ⟨fun | 6 => 40 | 15 => 55 | 14 => 54 | 28 => 74 | 29 => 75 | 20 => 66 | 21 => 67 | 22 => 68 | 23 => 69 | 24 => 70 | 25 => 71 | 26 => 72 | 27 => 73 | 46 => 86 | 47 => 87 | 48 => 88 | 49 => 89 | 50 => 90 | 57 => 102 | n => n, fun | 22 => 40 | 24 => 24 | 25 => 29 | 3 => 3 | 39 => 93 | 0 => 0 | 53 => 22 | 55 => 63 | 4 => 4 | 46 => 106 | 45 => 105 | 50 => 110 | 5 => 5 | 9 => 9 | 66 => 124 | 70 => 128 | 76 => 135 | 77 => 136 | n => n, fun | n => n⟩
theorem Try.sortVec : Go.Proofs.SlLaysF0.n6 Try.prog Try.sortVec_ren := {
  mixed := by kernel_rfl
  f6 := ⟨Try.f40.name, by decide, Try.func40.trans (congrArg some (by kernel_rfl))⟩
  f14 := ⟨Try.f54.name, by decide, Try.func54.trans (congrArg some (by kernel_rfl))⟩
  f15 := Try.func55.trans (congrArg some (by kernel_rfl))
  f20 := ⟨Try.f66.name, by decide, Try.func66.trans (congrArg some (by kernel_rfl))⟩
  f21 := ⟨Try.f67.name, by decide, Try.func67.trans (congrArg some (by kernel_rfl))⟩
  f22 := ⟨Try.f68.name, by decide, Try.func68.trans (congrArg some (by kernel_rfl))⟩
  f23 := ⟨Try.f69.name, by decide, Try.func69.trans (congrArg some (by kernel_rfl))⟩
  f24 := ⟨Try.f70.name, by decide, Try.func70.trans (congrArg some (by kernel_rfl))⟩
  f25 := ⟨Try.f71.name, by decide, Try.func71.trans (congrArg some (by kernel_rfl))⟩
  f26 := ⟨Try.f72.name, by decide, Try.func72.trans (congrArg some (by kernel_rfl))⟩
  f27 := ⟨Try.f73.name, by decide, Try.func73.trans (congrArg some (by kernel_rfl))⟩
  f28 := Try.func74.trans (congrArg some (by kernel_rfl))
  f29 := Try.func75.trans (congrArg some (by kernel_rfl))
  f46 := ⟨Try.f86.name, by decide, Try.func86.trans (congrArg some (by kernel_rfl))⟩
  f47 := Try.func87.trans (congrArg some (by kernel_rfl))
  f48 := Try.func88.trans (congrArg some (by kernel_rfl))
  f49 := ⟨Try.f89.name, by decide, Try.func89.trans (congrArg some (by kernel_rfl))⟩
  f50 := ⟨Try.f90.name, by decide, Try.func90.trans (congrArg some (by kernel_rfl))⟩
  f57 := ⟨Try.f102.name, by decide, Try.func102.trans (congrArg some (by kernel_rfl))⟩
  t0 := Try.underlying0
  a0 := Try.isAgg0
  z0 := Try.sizeOf0
  v0 := Try.zeroValue0
  t3 := Try.underlying3
  a3 := Try.isAgg3
  z3 := Try.sizeOf3
  v3 := Try.zeroValue3
  t4 := Try.underlying4
  a4 := Try.isAgg4
  z4 := Try.sizeOf4
  v4 := Try.zeroValue4
  t5 := Try.underlying5
  a5 := Try.isAgg5
  z5 := Try.sizeOf5
  v5 := Try.zeroValue5
  t9 := Try.underlying9
  a9 := Try.isAgg9
  z9 := Try.sizeOf9
  v9 := Try.zeroValue9
  t22 := Try.underlying40
  a22 := Try.isAgg40
  z22 := Try.sizeOf40
  v22 := Try.zeroValue40
  t25 := Try.underlying29
  a25 := Try.isAgg29
  z25 := Try.sizeOf29
  v25 := Try.zeroValue29
  t39 := Try.underlying93
  a39 := Try.isAgg93
  z39 := Try.sizeOf93
  v39 := Try.zeroValue93
  t45 := Try.underlying105
  a45 := Try.isAgg105
  z45 := Try.sizeOf105
  v45 := Try.zeroValue105
  t46 := Try.underlying106
  a46 := Try.isAgg106
  z46 := Try.sizeOf106
  v46 := Try.zeroValue106
  t50 := Try.underlying110
  a50 := Try.isAgg110
  z50 := Try.sizeOf110
  v50 := Try.zeroValue110
  t53 := Try.underlying22
  a53 := Try.isAgg22
  z53 := Try.sizeOf22
  v53 := Try.zeroValue22
  t55 := Try.underlying63
  a55 := Try.isAgg63
  z55 := Try.sizeOf63
  v55 := Try.zeroValue63
  t66 := Try.underlying124
  a66 := Try.isAgg124
  z66 := Try.sizeOf124
  v66 := Try.zeroValue124
  t70 := Try.underlying128
  a70 := Try.isAgg128
  z70 := Try.sizeOf128
  v70 := Try.zeroValue128
  t76 := Try.underlying135
  a76 := Try.isAgg135
  z76 := Try.sizeOf135
  v76 := Try.zeroValue135
  t77 := Try.underlying136
  a77 := Try.isAgg136
  z77 := Try.sizeOf136
  v77 := Try.zeroValue136 }
end Go.Proofs
namespace Go.Proofs.Ytihkncnhkljgpaa
open Go.RowKit Go.Sort

/-- A vector whose numbers fit. -/
abbrev Vo := { a : List Int // VOk a }
instance : Inhabited Vo := ⟨⟨vz, vz_ok⟩⟩
def enV (x : Vo) : List Value := vc x.1
def cfV (x y : Vo) : Int := lx y.1 x.1
theorem ltV (x y : Vo) : ltOf cfV x y = decide (lx y.1 x.1 < 0) := rfl
theorem swoV : SWO (ltOf cfV) where
  irrefl x := by rw [ltV]; exact decide_eq_false (lx_irrefl _)
  trans x y z h1 h2 := by rw [ltV] at *; simp only [decide_eq_true_eq] at *; exact lx_trans h2 h1
  ntrans x y z h1 h2 := by rw [ltV] at *; simp only [decide_eq_false_iff_not] at *; exact lx_ntrans (by rw [z.2.len, y.2.len]) (by rw [y.2.len, x.2.len]) h2 h1
theorem cmpLaysV (blk off size : Nat) (w : World) : CmpLays Try.prog 41 #[] enV 16 cfV blk off size w := fun m os dk _ x y =>
  (topsCmp_is x.1 y.1 (sortWorldK enV 16 w blk off m dk os) x.2.len y.2.len).mono fun _ _ h => ⟨h.1, h.2.grow⟩
def arrLV : (l : List (List Int)) → (∀ a ∈ l, VOk a) → List Vo
  | [], _ => []
  | a :: l, h => ⟨a, h a (List.mem_cons_self ..)⟩ :: arrLV l (fun b hb => h b (List.mem_cons_of_mem _ hb))
theorem arrLV_map : ∀ (l : List (List Int)) (h : ∀ a ∈ l, VOk a), (arrLV l h).map Subtype.val = l
  | [], _ => rfl
  | a :: l, h => by rw [arrLV, List.map_cons, arrLV_map l _]
def arrV (l : List (List Int)) (h : ∀ a ∈ l, VOk a) : Array Vo := (arrLV l h).toArray
theorem arrV_size (l : List (List Int)) (h : ∀ a ∈ l, VOk a) : (arrV l h).size = l.length := by
  have := congrArg List.length (arrLV_map l h)
  rw [List.length_map] at this
  exact this
theorem arrV_get (l : List (List Int)) (h : ∀ a ∈ l, VOk a) (i : Nat) (hi : i < l.length) : ((arrV l h)[i]!).1 = l[i] := by
  have hs := arrV_size l h
  rw [getElem!_pos _ i (by rw [hs]; exact hi)]
  have e : ((arrLV l h).map Subtype.val)[i]? = l[i]? := by rw [arrLV_map]
  rw [List.getElem?_map, List.getElem?_eq_getElem hi, List.getElem?_eq_getElem (by rw [← hs] at hi; exact hi)] at e
  exact Option.some.inj e
theorem arrV_list (l : List (List Int)) (h : ∀ a ∈ l, VOk a) : (arrV l h).toList.map Subtype.val = l := arrLV_map l h
theorem extract_allV (d : Array Vo) (n : Nat) (h : n = d.size) : (d.extract 0 n).toList = d.toList := by subst h; simp
theorem ownG_holdsV {w : World} {B g cap : Nat} {l : List (List Int)} (hok : ∀ a ∈ l, VOk a) (h : OwnG E24 w B (.slice (some ⟨g, 0, none⟩) l.length cap) l) : HoldsK enV 16 w g 0 (arrV l hok) := by
  rcases h.row.2 with ⟨e, _⟩ | ⟨g', cap', cur, e, hb, hg, hn, hc, hs, ht⟩
  · cases e
  · injection e with e1 e2 e3
    injection e1 with e1
    injection e1 with e1
    subst e1
    intro t ht'
    rw [size_flatK, arrV_size] at ht'
    rw [get_flatK _ _ _ t (by rw [arrV_size]; exact ht')]
    have hi : t / 16 < l.length := by omega
    have hj : t % 16 < 16 := by omega
    have e4 : enV (arrV l hok)[t / 16]! = vc l[t / 16] := by unfold enV; rw [arrV_get l hok _ hi]
    have hlen : (vc l[t / 16]).length = 16 := (vc_len _).trans (hok _ (List.getElem_mem hi)).len
    rw [e4]
    have hv : (vc l[t / 16])[t % 16]? = some ((vc l[t / 16])[t % 16]!) := by
      rw [List.getElem?_eq_getElem (by omega), getElem!_pos _ _ (by omega)]
    have h1 := acsG_get L24 h.ok _ hi (t % 16) _ hv
    have ht2 : t < l.length * E24.sz := ht'
    have e16 : t / 16 * E24.sz + t % 16 = t := by show t / 16 * 16 + t % 16 = t; omega
    rw [e16, ← ht, List.getElem?_take_of_lt ht2] at h1
    refine ⟨?_, ?_⟩
    · rw [cell_of_row _ g _ cur 24 (0, 0) hg, Nat.zero_add]
      simpa using h1
    · unfold World.frozen?
      simp [hg]
theorem sortW_onlyV (w : World) (g : Nat) (n : Nat) (d : Array Vo) (os : Array Obj) : Only g w (sortWorldK enV 16 w g 0 n d os) := by
  have hb : ∀ k, k < w.heap.size → k ≠ g → (sortWorldK enV 16 w g 0 n d os).heap[k]? = w.heap[k]? := by
    intro k hk hn
    unfold sortWorldK putRowK putRow mapBlock grow Go.Sort.ahead
    simp only
    rw [Array.getElem?_append_left (by simpa using hk), Array.getElem?_modify, if_neg (fun e => hn e.symm)]
  refine ⟨rfl, rfl, rfl, ?_, hb⟩
  unfold sortWorldK putRowK
  rw [size_grow, size_putRow]
  show w.heap.size ≤ w.heap.size + os.size
  omega
/-- What the sort leaves. -/
theorem sortV_is (g cap : Nat) (B : Nat) (l : List (List Int)) (w : World) (h : OwnG E24 w B (.slice (some ⟨g, 0, none⟩) l.length cap) l) (hn : l.length ≤ 5000) :
    Calls Try.prog 40 #[.slice (some ⟨g, 0, none⟩) l.length cap, .func (.func 41) #[] #[]] w fun e w' => e = .returned (.tuple #[]) ∧ ∃ s, s.Perm l ∧ s.Pairwise (fun a b => ¬ lx a b < 0) ∧ RowG E24 w' (some ⟨g, 0, none⟩) l.length cap s ∧ Only g w w' := by
  have hok0 : ∀ a ∈ l, VOk a := h.ok
  have hH := ownG_holdsV hok0 h
  have zE : ∀ w, (sizeOf 24).run Try.prog w = .ok 16 w := fun w => sizeOfG L24 w
  have hg : g < w.heap.size := (h.row.lt g rfl).2
  have eg : ∀ args w, (callFunc 41 args).run Try.prog w = .ok (.enter 41 args) w := enters_of Try.func41 (by kernel_rfl) rfl
  have hcap : l.length ≤ cap ∧ cap ≤ maxLen := by
    rcases h.row.2 with ⟨e, _⟩ | ⟨g', cap', cur, e, _, _, h1, h2, _⟩
    · cases e
    · injection e with e1 e2 e3; subst e3; exact ⟨h1, h2⟩
  have hcon := AnyQ.slices_SortFunc Try.sortVec 16 Try.isAgg24 zE enV (fun x => (vc_len _).trans x.2.len) (fun x => vc_ones x.1) cfV swoV 41 #[] g 0 cap (arrV l hok0) w eg (cmpLaysV g 0 _ w) hH hg (by rw [arrV_size]; omega)
  rw [arrV_size] at hcon
  refine hcon.mono ?_
  rintro e w' ⟨rfl, d', n, os, hp, hs, rfl⟩
  have hsz : d'.size = l.length := by rw [hp.1, arrV_size]
  have hperm : (d'.toList.map Subtype.val).Perm l := by
    have h3 := hp.2.2
    rw [extract_allV d' _ hsz.symm, extract_allV _ _ (arrV_size l hok0).symm] at h3
    have := h3.map Subtype.val
    rwa [arrV_list] at this
  have get : ∀ i (hi : i < (d'.toList.map Subtype.val).length), (d'.toList.map Subtype.val)[i] = d'[i]!.1 := fun i hi => by
    rw [List.getElem_map, getElem!_pos d' i (by simpa using hi)]
    rfl
  have hlen : (d'.toList.map Subtype.val).length = l.length := by rw [List.length_map, Array.length_toList, hsz]
  have hok : ∀ a ∈ d'.toList.map Subtype.val, VOk a := fun a ha => hok0 a (hperm.mem_iff.1 ha)
  refine ⟨rfl, d'.toList.map Subtype.val, hperm, ?_, ?_, sortW_onlyV w g n d' os⟩
  · refine List.pairwise_iff_getElem.2 (fun i j hi hj hij => ?_)
    have h1 := hs i j (Nat.zero_le _) hij (by rw [hlen] at hj; exact hj)
    rw [ltV, ← get i hi, ← get j hj] at h1
    exact of_decide_eq_false h1
  · refine ⟨hok, hlen, hcap.1, hcap.2, fun _ => ⟨g, 0, rfl, ?_, fun i hi c v hv => ?_⟩⟩
    · exact Nat.lt_of_lt_of_le hg (sortW_onlyV w g n d' os).size
    · have hsw : SWK enV 16 w g 0 d' (sortWorldK enV 16 w g 0 n d' os) := ⟨n, os, rfl⟩
      have hh := hsw.holds hg hH (by rw [hsz, arrV_size])
      have hc : c < 16 := by
        have h1 := (List.getElem?_eq_some_iff.1 hv).1
        have h2 : (vc (d'.toList.map Subtype.val)[i]).length = 16 := (vc_len _).trans (hok _ (List.getElem_mem hi)).len
        exact h2 ▸ h1
      have h5 := (HoldsK.cell hh (i := i) (c := c) (by rw [hsz]; rw [hlen] at hi; exact hi) hc).1
      have h5' : (sortWorldK enV 16 w g 0 n d' os).cell? ⟨g, 0 + i * 16 + c, none⟩ = some ((enV d'[i]!)[c]!) := h5
      show (sortWorldK enV 16 w g 0 n d' os).cell? ⟨g, 0 + i * 16 + c, none⟩ = some v
      rw [h5']
      have hv' : (vc (d'.toList.map Subtype.val)[i])[c]? = some v := hv
      rw [get i hi] at hv'
      obtain ⟨h6, h7⟩ := List.getElem?_eq_some_iff.1 hv'
      unfold enV
      rw [getElem!_pos _ c h6, h7]
theorem len0_is (w : World) : Calls Try.prog 55 #[.int .u64 0] w fun e w' => e = .returned (.int .i64 0) ∧ w' = w := by
  have h := Any.bits_Len (SlLaysF0.n15.bits (P := Try.prog) (ρ := Try.sortVec_ren) { Try.sortVec with }) (0 : Int) w (by omega) (by omega)
  exact h
set_option maxRecDepth 100000 in
/-- A nil slice is sorted. -/
theorem insert0_is (f : Value) (w : World) : Calls Try.prog 66 #[.slice none 0 0, .int .i64 0, .int .i64 0, f] w fun e w' => e = .returned (.tuple #[]) ∧ w' = w := by
  go_enter Try.func66, Try.ntmps66
  go_wp2_with fail
  refine wp_loop_rounds 1 ?_
  rw [rounds_succ]
  go_wp2_with fail
  go_end0
  exact ⟨rfl, rfl⟩
set_option maxRecDepth 100000 in
theorem pdq0_is (f : Value) (w : World) : Calls Try.prog 54 #[.slice none 0 0, .int .i64 0, .int .i64 0, .int .i64 0, f] w fun e w' => e = .returned (.tuple #[]) ∧ w' = w := by
  go_enter Try.func54, Try.ntmps54
  go_wp2_with fail
  refine wp_loop_rounds 1 ?_
  rw [rounds_succ]
  go_wp2_with fail
  refine (insert0_is f _).mono ?_
  rintro e w1 ⟨rfl, rfl⟩
  go_wp2_with fail
  refine bodyPost_ret (results_none rfl _ _ _) rfl ?_
  exact ⟨rfl, rfl⟩
set_option maxRecDepth 100000 in
theorem sort0_is (w : World) : Calls Try.prog 40 #[.slice none 0 0, .func (.func 41) #[] #[]] w fun e w' => e = .returned (.tuple #[]) ∧ w' = w := by
  go_enter Try.func40, Try.ntmps40
  go_wp2_with fail
  refine (len0_is _).mono ?_
  rintro e w1 ⟨rfl, rfl⟩
  go_wp2_with fail
  refine (pdq0_is _ _).mono ?_
  rintro e w1 ⟨rfl, rfl⟩
  go_wp2_with fail
  go_end0
  exact ⟨rfl, rfl⟩
end Go.Proofs.Ytihkncnhkljgpaa
