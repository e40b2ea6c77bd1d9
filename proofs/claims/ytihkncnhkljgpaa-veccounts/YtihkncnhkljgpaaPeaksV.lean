/- The contract of Peaks of package vec. -/
import Derived.Test.YtihkncnhkljgpaaRefPk
import Derived.Test.YtihkncnhkljgpaaCollectV
namespace Go.Proofs.Ytihkncnhkljgpaa
open Go.RowKit

theorem cnts_some (ls : List (List Int)) (k : List Int) : cnts ls k ≠ none ↔ k ∈ ls := by
  unfold cnts
  by_cases h : k ∈ ls <;> simp [h]
theorem high_pos {ls s h : List (List Int)} (hs : ∀ k, k ∈ s ↔ cnts ls k ≠ none) (hh : ∀ k, k ∈ h ↔ k ∈ s ∧ mxl s k = true) {i : Nat} (hi : i < ls.length) : pkl ls i = decide (0 < (cnts h (ls.getD i vz)).getD 0) := by
  have hm : ls.getD i vz ∈ ls := by rw [List.getD_eq_getElem?_getD, List.getElem?_eq_getElem hi]; exact List.getElem_mem hi
  have hm2 : ls.getD i vz ∈ s := (hs _).2 ((cnts_some ls _).2 hm)
  have e : mxl s (ls.getD i vz) = mxl ls (ls.getD i vz) := mxl_same (fun k => (hs k).trans (cnts_some ls k)) _
  rw [cnts_getD]
  unfold pkl
  rw [← e, Bool.eq_iff_iff, decide_eq_true_eq]
  have h2 : (0 : Int) < (h.count (ls.getD i vz) : Nat) ↔ ls.getD i vz ∈ h := by
    rw [← List.count_pos_iff]; omega
  rw [h2, hh]
  exact ⟨fun g => ⟨hm2, g⟩, fun g => g.2⟩
set_option maxRecDepth 100000 in
set_option maxHeartbeats 4000000 in
theorem peaksV_is (A : Option Addr) (n cap : Nat) (ls : List (List Int)) (w : World) (h : RowG E24 w A n cap ls) (hn : n ≤ 4000) : Calls Try.prog 22 #[.slice A n cap] w (GivesI w (peaksV ls)) := by
  have H := Lib.hid h
  have LN := Lib.hid h.len
  have hz := zero24
  clear h
  go_enter Try.func22, Try.ntmps22
  go_wp2_with fail
  refine (countV_is A n cap ls _ H.out (by omega)).mono ?_
  rintro e w1 ⟨⟨b1, rfl, lb1, m1, _⟩, q1⟩
  have M1 := Lib.hid m1
  have B1 := Lib.hid q1
  clear m1 q1 lb1
  go_wp2_with fail
  refine (keysV_is b1 _).mono ?_
  rintro e w2 ⟨rfl, k2, q2⟩
  have K2 := Lib.hid k2
  have M2 := Lib.hid (M1.out.below q2)
  have B2 := Lib.hid (step_ B1.out q2)
  clear k2 q2
  go_wp2_with fail
  refine (collectV_is 46 #[.pointer (some ⟨w1.heap.size, 0, none⟩)] _ (NxK (cnts ls) ls.length) (FinK (cnts ls) ls.length) ls.length _ (fun _ _ => rfl) (keys_seq w1.heap.size b1 ls.length (cnts ls) w2 M2.out) (fun V hb => ⟨K2.out.below hb, hb.block b1 M2.out.lt⟩) (by rw [LN.out]; exact hn) (fun pre x h => ⟨h.1, h.2.2⟩)).mono ?_
  rintro e w3 ⟨⟨v3, s, rfl, hf, o3⟩, q3⟩
  have FS := Lib.hid hf
  have O3 := Lib.hid o3
  have B3 := Lib.hid (step_ B2.out q3)
  have S23 := Lib.hid q3.size
  clear hf o3 q3 M1 M2 K2
  go_wp2_with fail
  refine (tops_is v3 w2.heap.size s _ O3.out FS.out.1 (by have h1 := FS.out.2.2; have h2 := LN.out; omega) S23.out).mono ?_
  rintro e w4 ⟨⟨v4, hh, rfl, hm, hl, o4⟩, q4⟩
  obtain ⟨A4, n4, c4, rfl, r4⟩ := o4.rowG L24
  have HM := Lib.hid hm
  have R4 := Lib.hid r4
  have L4 := Lib.hid (show n4 ≤ 5000 by have h1 := FS.out.2.2; have h2 := LN.out; have h3 := r4.len; omega)
  have B4 := Lib.hid (B3.out.trans (q4.mono B2.out.size))
  clear hm hl o4 r4 q4 O3
  go_wp2_with fail
  refine (countV_is A4 n4 c4 hh _ R4.out L4.out).mono ?_
  rintro e w5 ⟨⟨b5, rfl, lb5, m5, _⟩, q5⟩
  have M5 := Lib.hid m5
  have B5 := Lib.hid (step_ B4.out q5)
  clear m5 q5 lb5 R4
  go_wp2_with fail
  go_loopw [4, 15] (fun v ii wr => ∃ i : Nat, i ≤ n ∧ ii = .int .i64 i ∧ OwnI wr w5.heap.size v ((List.range i).filter (pkl ls)) ∧ Below w5.heap.size w5 wr) (fun _ ii _ => n - (intOf ii).toNat)
  case atStart => exact ⟨0, Nat.zero_le _, rfl, ownI_nil _ _, Below.refl _ _⟩
  case round =>
    obtain ⟨i, hi, rfl, ho, hb⟩ := hrel
    obtain ⟨D3, c3, e3⟩ := ho.shape
    subst e3
    have OI := Lib.hid ho
    have BB := Lib.hid hb
    have M6 := Lib.hid (M5.out.below hb)
    clear ho hb
    by_cases hlt : i < n
    · have LI := Lib.hid (show ((List.range i).filter (pkl ls)).length ≤ 5000 from Nat.le_trans (List.length_filter_le ..) (by rw [List.length_range]; omega))
      have FR := Lib.hid (filter_rangeV (pkl ls) i)
      have HP := Lib.hid (high_pos FS.out.2.1 HM.out (i := i) (by rw [LN.out]; exact hlt))
      obtain ⟨G, p, hE⟩ := (H.out.below (B5.out.trans (BB.out.mono B5.out.size))).elem vz i hlt
      have E := Lib.hid hE
      obtain ⟨x, hx⟩ : ∃ x, ls.getD i vz = x := ⟨_, rfl⟩
      rw [hx] at E HP
      clear hE hx
      have XO := Lib.hid (show VOk x from E.out.ok)
      have Z0 := Lib.hid (blk_alloc wr 24 (vc vz))
      obtain ⟨z, hz2⟩ : ∃ z, (cnts hh x).getD 0 = z := ⟨_, rfl⟩
      have HZ := Lib.hid hz2
      rw [hz2] at HP
      clear hz2
      by_cases hp : 0 < z
      · have FR2 := Lib.hid (show (List.range (i + 1)).filter (pkl ls) = (List.range i).filter (pkl ls) ++ [i] by rw [FR.out, HP.out, decide_eq_true hp]; rfl)
        go_wp2_with (first
          | go_skip
          | refine wpList_indexG L24 rfl _ _ rfl A n cap G p i x _ rfl rfl (by first | rfl | omega) E.out ?_
          | refine wpList_load_v t24 rfl _ rfl G p x rfl E.out.rg XO.out.len ?_
          | (refine wpList_store_v t24 rfl _ _ rfl wr.heap.size vz x rfl rfl Z0.out rfl XO.out.len ?_; intro w6 N6 O6; have Q6 := Lib.hid (box_below O6.out))
          | refine wpList_load_v t24 rfl _ rfl wr.heap.size 0 x rfl N6.out.range XO.out.len ?_
          | (refine wpList_lookN rfl _ _ rfl b5 hh.length (cnts hh) x rfl rfl (M6.out.below Q6.out) XO.out ?_; rw [HZ.out])
          | (refine wpList_ints1 rfl _ rfl (i : Int) rfl ?_; intro g7 w7 e7 N7 B7)
          | (refine wpList_app_i rfl _ _ rfl w5.heap.size _ ((List.range i).filter (pkl ls)) i g7 rfl rfl ((OI.out.below Q6.out).below B7.out) N7.out LI.out (Nat.le_trans BB.out.size (step_ Q6.out B7.out).size) ?_; intro D8 m8 c8 w8 e8 O8 B8 G8))
        go_roundw
        case rel => exact ⟨i + 1, by omega, by go_num, by rw [FR2.out]; exact O8.out, (step_ BB.out (step_ Q6.out B7.out)).trans B8.out⟩
        case measure => simp [intOf]; omega
      · have FR2 := Lib.hid (show (List.range (i + 1)).filter (pkl ls) = (List.range i).filter (pkl ls) by rw [FR.out, HP.out, decide_eq_false hp]; simp)
        go_wp2_with (first
          | go_skip
          | refine wpList_indexG L24 rfl _ _ rfl A n cap G p i x _ rfl rfl (by first | rfl | omega) E.out ?_
          | refine wpList_load_v t24 rfl _ rfl G p x rfl E.out.rg XO.out.len ?_
          | (refine wpList_store_v t24 rfl _ _ rfl wr.heap.size vz x rfl rfl Z0.out rfl XO.out.len ?_; intro w6 N6 O6; have Q6 := Lib.hid (box_below O6.out))
          | refine wpList_load_v t24 rfl _ rfl wr.heap.size 0 x rfl N6.out.range XO.out.len ?_
          | (refine wpList_lookN rfl _ _ rfl b5 hh.length (cnts hh) x rfl rfl (M6.out.below Q6.out) XO.out ?_; rw [HZ.out]))
        go_roundw
        case rel => exact ⟨i + 1, by omega, by go_num, by rw [FR2.out]; exact OI.out.below Q6.out, step_ BB.out Q6.out⟩
        case measure => simp [intOf]; omega
    · obtain rfl : n = i := by omega
      have PE := Lib.hid (show (List.range n).filter (pkl ls) = peaksV ls by unfold peaksV; rw [LN.out])
      go_wp2_with fail
      go_ret
      refine ⟨⟨_, _, _, rfl, ?_, fun a ha => ?_⟩, B5.out.trans (BB.out.mono B5.out.size)⟩
      · rw [← PE.out]; exact OI.out.ints
      · subst ha
        rcases OI.out.row.2 with ⟨e, _⟩ | ⟨g, cap', cur, e, hb, _⟩
        · cases e
        · injection e with e1
          injection e1 with e1
          subst e1
          exact Nat.le_trans B5.out.size hb
end Go.Proofs.Ytihkncnhkljgpaa
