/- The contracts of IndexFunc and ContainsFunc of slices at vectors, and of tops. -/
import Derived.Test.YtihkncnhkljgpaaSortedV
import Derived.Test.YtihkncnhkljgpaaJoins
namespace Go.Proofs.Ytihkncnhkljgpaa
open Go.RowKit

theorem any_takeV {l : List (List Int)} {p : List Int → Bool} {j : Nat} (hj : j < l.length) : (l.take (j + 1)).any p = ((l.take j).any p || p (l.getD j vz)) := by
  rw [take_getDG vz hj, List.any_append]; simp
theorem any_atV {l : List (List Int)} {p : List Int → Bool} {j : Nat} (hj : j < l.length) (h : p (l.getD j vz) = true) : l.any p = true := by
  rw [List.any_eq_true]
  refine ⟨l[j], List.getElem_mem _, ?_⟩
  rw [List.getD_eq_getElem?_getD, List.getElem?_eq_getElem hj, Option.getD_some] at h
  exact h
set_option maxRecDepth 100000 in
set_option maxHeartbeats 4000000 in
theorem indexV_is (g : Nat) (caps : Array Value) (eg : ∀ args w, (callFunc g args).run Try.prog w = .ok (.enter g args) w) (p : List Int → Bool) (A : Option Addr) (n cap : Nat) (l : List (List Int)) (w : World) (h : RowG E24 w A n cap l) (hn : n ≤ 5000)
    (hc : ∀ x W, VOk x → Below w.heap.size w W → Calls Try.prog g (#[.agg (vc x).toArray] ++ caps) W fun e W' => e = .returned (.bool (p x)) ∧ Below W.heap.size W W') :
    Calls Try.prog 57 #[.slice A n cap, .func (.func g) #[] caps] w fun e w' => (∃ i : Int, e = .returned (.int .i64 i) ∧ decide (0 ≤ i) = l.any p) ∧ Below w.heap.size w w' := by
  have H := Lib.hid h
  have HC := Lib.hid hc
  clear h hc
  go_enter Try.func57, Try.ntmps57
  go_wp2_with fail
  go_loopw [8] (fun i wr => ∃ j : Nat, j ≤ n ∧ i = .int .i64 j ∧ (l.take j).any p = false ∧ Below w.heap.size w wr) (fun i _ => n - (intOf i).toNat)
  case atStart => exact ⟨0, Nat.zero_le _, rfl, rfl, Below.refl _ _⟩
  case round =>
    obtain ⟨j, hj, rfl, ha, hb⟩ := hrel
    have AA := Lib.hid ha
    have BB := Lib.hid hb
    clear ha hb
    by_cases hlt : j < n
    · obtain ⟨G, p0, hE⟩ := (H.out.below BB.out).elem vz j hlt
      have E := Lib.hid hE
      have HJ := Lib.hid (show j < l.length by rw [H.out.len]; exact hlt)
      have TT := Lib.hid (any_takeV (p := p) HJ.out)
      have TA := Lib.hid (any_atV (p := p) HJ.out)
      obtain ⟨x, hx⟩ : ∃ x, l.getD j vz = x := ⟨_, rfl⟩
      rw [hx] at E TT TA
      clear hE hx
      cases hp : p x with
      | true =>
        have HP := Lib.hid hp
        clear hp
        go_wp2_with (first
          | go_skip
          | refine wpList_indexG L24 rfl _ _ rfl A n cap G p0 j x _ rfl rfl (by first | rfl | omega) E.out ?_
          | refine wpList_load_v t24 rfl _ rfl G p0 x rfl E.out.rg E.out.ok.len ?_)
        refine (HC.out x _ E.out.ok BB.out).mono ?_
        rw [HP.out]
        rintro e w3 ⟨rfl, b3⟩
        have B3 := Lib.hid (step_ BB.out b3)
        clear b3
        go_wp2_with fail
        go_ret
        exact ⟨⟨(j : Int), rfl, by rw [TA.out HP.out]; exact decide_eq_true (by omega)⟩, B3.out⟩
      | false =>
        have HP := Lib.hid hp
        clear hp
        go_wp2_with (first
          | go_skip
          | refine wpList_indexG L24 rfl _ _ rfl A n cap G p0 j x _ rfl rfl (by first | rfl | omega) E.out ?_
          | refine wpList_load_v t24 rfl _ rfl G p0 x rfl E.out.rg E.out.ok.len ?_)
        refine (HC.out x _ E.out.ok BB.out).mono ?_
        rw [HP.out]
        rintro e w3 ⟨rfl, b3⟩
        have B3 := Lib.hid (step_ BB.out b3)
        clear b3
        go_wp2_with fail
        go_roundw
        case rel => exact ⟨j + 1, by omega, by go_num, by rw [TT.out, AA.out, HP.out]; rfl, B3.out⟩
        case measure => simp [intOf]; omega
    · obtain rfl : j = n := by omega
      have HS := Lib.hid (show l.take j = l from List.take_of_length_le (by have := H.out.len; omega))
      go_wp2_with fail
      go_ret
      exact ⟨⟨-1, rfl, by rw [← HS.out, AA.out]; rfl⟩, BB.out⟩
set_option maxRecDepth 100000 in
set_option maxHeartbeats 4000000 in
theorem containsV_is (g : Nat) (caps : Array Value) (eg : ∀ args w, (callFunc g args).run Try.prog w = .ok (.enter g args) w) (p : List Int → Bool) (A : Option Addr) (n cap : Nat) (l : List (List Int)) (w : World) (h : RowG E24 w A n cap l) (hn : n ≤ 5000)
    (hc : ∀ x W, VOk x → Below w.heap.size w W → Calls Try.prog g (#[.agg (vc x).toArray] ++ caps) W fun e W' => e = .returned (.bool (p x)) ∧ Below W.heap.size W W') :
    Calls Try.prog 44 #[.slice A n cap, .func (.func g) #[] caps] w fun e w' => e = .returned (.bool (l.any p)) ∧ Below w.heap.size w w' := by
  have H := Lib.hid h
  have HC := Lib.hid hc
  clear h hc
  go_enter Try.func44, Try.ntmps44
  go_wp2_with fail
  refine (indexV_is g caps eg p A n cap l _ H.out hn HC.out).mono ?_
  rintro e w1 ⟨⟨i, rfl, hi⟩, b1⟩
  have HI := Lib.hid hi
  have B1 := Lib.hid b1
  clear hi b1
  go_wp2_with fail
  go_ret
  exact ⟨ret_bool HI.out, B1.out⟩
theorem covers_is (g : Nat) (x t : List Int) (w : World) (h : Blk w g 24 (vc x)) (hx : x.length = 16) (ht : t.length = 16) : Calls Try.prog 43 #[.agg (vc t).toArray, .pointer (some ⟨g, 0, none⟩)] w fun e w' => e = .returned (.bool (vle x t)) ∧ Below w.heap.size w w' := by
  have Q1 := Lib.hid (blk_alloc w 24 (vc t))
  have Q2 := Lib.hid (h.alloc (.cells (vc t).toArray 24))
  have B0 := Lib.hid (new_below w (.cells (vc t).toArray 24))
  have HX := Lib.hid hx
  have HT := Lib.hid ht
  clear h hx ht
  obtain ⟨r, hr⟩ : ∃ r, vle x t = r := ⟨_, rfl⟩
  have HR := Lib.hid hr
  rw [hr]
  clear hr
  go_enter Try.func43, Try.ntmps43
  go_wp2_with (first
    | refine wpList_load_v t24 rfl _ rfl w.heap.size 0 t rfl Q1.out.range HT.out ?_
    | refine wpList_load_v t24 rfl _ rfl g 0 x rfl Q2.out.range HX.out ?_)
  refine (leqV_is x t r _ HX.out HT.out HR).mono ?_
  rintro e w1 ⟨rfl, b1⟩
  have B1 := Lib.hid (step_ B0.out b1)
  clear b1
  go_wp2_with fail
  go_ret
  exact ⟨rfl, B1.out⟩
/-- The call answers those of s that are greatest, in a list of its own. -/
def GivesT (w : World) (B : Nat) (s : List (List Int)) (e : Ending) (w' : World) : Prop := (∃ v h, e = .returned v ∧ (∀ k, k ∈ h ↔ k ∈ s ∧ mxl s k = true) ∧ h.length ≤ s.length ∧ OwnG E24 w' B v h) ∧ Below B w w'
theorem filter_takeV {s : List (List Int)} {p : List Int → Bool} {j : Nat} (h : j < s.length) : (s.take (j + 1)).filter p = (s.take j).filter p ++ (if p (s.getD j vz) = true then [s.getD j vz] else []) := by
  rw [take_getDG vz h, List.filter_append, List.filter_cons, List.filter_nil]
set_option maxRecDepth 100000 in
set_option maxHeartbeats 4000000 in
theorem tops_is (v : Value) (B : Nat) (s0 : List (List Int)) (w : World) (h : OwnG E24 w B v s0) (hd : s0.Nodup) (hn : s0.length ≤ 4000) (hB : B ≤ w.heap.size) : Calls Try.prog 30 #[v] w (GivesT w B s0) := by
  have SORT : Calls Try.prog 40 #[v, .func (.func 41) #[] #[]] w fun e w' => e = .returned (.tuple #[]) ∧ ∃ A cap s, v = .slice A s0.length cap ∧ s.Perm s0 ∧ s.Pairwise (fun a b => ¬ lx a b < 0) ∧ RowG E24 w' A s0.length cap s ∧ Below B w w' := by
    rcases h.row.2 with ⟨rfl, h0⟩ | ⟨g, cap, cur, rfl, hb, _⟩
    · refine (sort0_is w).mono ?_
      rintro e w' ⟨rfl, rfl⟩
      have e0 : s0 = [] := List.eq_nil_of_length_eq_zero h0
      subst e0
      exact ⟨rfl, none, 0, [], rfl, List.Perm.refl _, List.Pairwise.nil, rowG_nil _, Below.refl _ _⟩
    · refine (sortV_is g cap B s0 w h (by omega)).mono ?_
      rintro e w' ⟨rfl, s, h1, h2, h3, h4⟩
      exact ⟨rfl, some ⟨g, 0, none⟩, cap, s, rfl, h1, h2, h3, h4.below hb hB⟩
  have SO := Lib.hid SORT
  have HD := Lib.hid hd
  have HL := Lib.hid (show ∀ a ∈ s0, VOk a from h.ok)
  obtain ⟨A, cap, rfl⟩ := h.shape
  clear SORT hd h
  have hz := zero24
  go_enter Try.func30, Try.ntmps30
  go_wp2_with fail
  refine SO.out.mono ?_
  rintro e w1 ⟨rfl, A', cap', s, hv, hp, hs, hr, hb⟩
  injection hv with hA _ hcap
  subst hA hcap
  obtain ⟨n, hnn⟩ : ∃ n, s0.length = n := ⟨_, rfl⟩
  rw [hnn] at hr hn ⊢
  have HP := Lib.hid hp
  have HSO := Lib.hid hs
  have R1 := Lib.hid hr
  have B1 := Lib.hid hb
  have DS := Lib.hid (hp.nodup_iff.2 HD.out)
  have LS := Lib.hid (show ∀ a ∈ s, VOk a from hr.ok)
  have LN := Lib.hid hr.len
  have BS := Lib.hid (show B ≤ w1.heap.size from Nat.le_trans hB hb.size)
  have HNN := Lib.hid hnn
  clear hp hs hr hb SO HL hnn
  go_wp2_with fail
  go_loopw [3, 11] (fun hv ii wr => ∃ (j : Nat) (D : Option Addr) (m c : Nat), j ≤ n ∧ ii = .int .i64 j ∧ hv = .slice D m c ∧ OwnG E24 wr w1.heap.size (.slice D m c) ((s.take j).filter (mxl s)) ∧ Below w1.heap.size w1 wr) (fun _ ii _ => n - (intOf ii).toNat)
  case atStart => exact ⟨0, none, 0, 0, Nat.zero_le _, rfl, rfl, ownG_nil _ _, Below.refl _ _⟩
  case round =>
    obtain ⟨j, D, m, c, hj, rfl, rfl, ho, hb⟩ := hrel
    have OO := Lib.hid ho
    have BB := Lib.hid hb
    clear ho hb
    by_cases hlt : j < n
    · have HJ := Lib.hid (show j < s.length by rw [LN.out]; exact hlt)
      obtain ⟨G, p0, hE⟩ := (R1.out.below BB.out).elem vz j hlt
      have E := Lib.hid hE
      have FT := Lib.hid (filter_takeV (p := mxl s) HJ.out)
      have AT := Lib.hid (show ((s.take j).filter (mxl s)).any (fun t => vle (s.getD j vz) t) = !mxl s (s.getD j vz) by
        have e : s.getD j vz = s[j]'HJ.out := by rw [List.getD_eq_getElem?_getD, List.getElem?_eq_getElem HJ.out, Option.getD_some]
        rw [e]; exact any_top (HSO.out.imp (fun h => Int.not_lt.2 h)) (fun a ha => (LS.out a ha).len) DS.out HJ.out)
      obtain ⟨x, hx⟩ : ∃ x, s.getD j vz = x := ⟨_, rfl⟩
      rw [hx] at E FT AT
      clear hE hx
      have XO := Lib.hid (show VOk x from E.out.ok)
      have Z1 := Lib.hid (blk_alloc wr 24 (vc vz))
      obtain ⟨h0, hh0⟩ : ∃ h0, (s.take j).filter (mxl s) = h0 := ⟨_, rfl⟩
      rw [hh0] at OO FT AT
      have LH := Lib.hid (show h0.length ≤ 4000 by rw [← hh0]; exact Nat.le_trans (List.length_filter_le ..) (by rw [List.length_take]; omega))
      clear hh0
      go_wp2_with (first
        | go_skip
        | refine wpList_indexG L24 rfl _ _ rfl A n cap G p0 j x _ rfl rfl (by first | rfl | omega) E.out ?_
        | refine wpList_load_v t24 rfl _ rfl G p0 x rfl E.out.rg XO.out.len ?_
        | (refine wpList_store_v t24 rfl _ _ rfl wr.heap.size vz x rfl rfl Z1.out rfl XO.out.len ?_; intro w2 N2 O2; have Q2 := Lib.hid (box_below O2.out)))
      have O2' := Lib.hid (OO.out.below Q2.out)
      obtain ⟨A3, n3, c3, e3, r3⟩ := O2'.out.rowG L24
      injection e3 with e31 e32 e33
      subst e31 e32 e33
      have R3 := Lib.hid r3
      have M3 := Lib.hid (show m ≤ 5000 by rw [← r3.len]; have := LH.out; omega)
      clear r3
      have CO := Lib.hid (fun (t : List Int) (W : World) (ht : VOk t) (hW : Below w2.heap.size w2 W) => covers_is wr.heap.size x t W (N2.out.below hW) XO.out.len ht.len)
      refine (containsV_is 43 #[.pointer (some ⟨wr.heap.size, 0, none⟩)] (fun _ _ => rfl) (fun t => vle x t) D m c h0 _ R3.out M3.out CO.out).mono ?_
      rw [AT.out]
      rintro e w4 ⟨rfl, b4⟩
      have O4 := Lib.hid (O2'.out.below b4)
      have N4 := Lib.hid (N2.out.below b4)
      have B4 := Lib.hid (step_ (step_ BB.out Q2.out) b4)
      clear b4
      cases hm : mxl s x with
      | true =>
        have FT2 := Lib.hid (show (s.take (j + 1)).filter (mxl s) = h0 ++ [x] by rw [FT.out, hm]; rfl)
        clear hm
        go_wp2_with (first
          | go_skip
          | refine wpList_load_v t24 rfl _ rfl wr.heap.size 0 x rfl N4.out.range XO.out.len ?_
          | (refine wpList_oneG L24 rfl _ rfl x rfl XO.out ?_; intro g6 w6 e6 N6 B6)
          | (refine wpList_appG L24 rfl _ _ rfl w1.heap.size _ h0 x g6 rfl rfl (O4.out.below B6.out) XO.out N6.out (by have := LH.out; omega) (Nat.le_trans B4.out.size B6.out.size) ?_; intro D7 m7 c7 w7 e7 O7 B7 G7))
        go_roundw
        case rel => exact ⟨j + 1, D7, m7, c7, by omega, by go_num, rfl, by rw [FT2.out]; exact O7.out, (step_ B4.out B6.out).trans B7.out⟩
        case measure => simp [intOf]; omega
      | false =>
        have FT2 := Lib.hid (show (s.take (j + 1)).filter (mxl s) = h0 by rw [FT.out, hm]; simp)
        clear hm
        go_wp2_with fail
        go_roundw
        case rel => exact ⟨j + 1, D, m, c, by omega, by go_num, rfl, by rw [FT2.out]; exact O4.out, B4.out⟩
        case measure => simp [intOf]; omega
    · obtain rfl : n = j := by omega
      have TK := Lib.hid (show s.take n = s from List.take_of_length_le (by rw [LN.out]; exact Nat.le_refl _))
      rw [TK.out] at OO
      go_wp2_with fail
      go_ret
      refine ⟨⟨_, s.filter (mxl s), rfl, fun k => ?_, ?_, OO.out.down BS.out⟩, B1.out.trans (BB.out.mono BS.out)⟩
      · rw [List.mem_filter, HP.out.mem_iff, mxl_same (fun k => HP.out.mem_iff)]
      · exact Nat.le_trans (List.length_filter_le ..) (Nat.le_of_eq HP.out.length_eq)
end Go.Proofs.Ytihkncnhkljgpaa
