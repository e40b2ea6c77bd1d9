/- The contracts of Times and Peaks of the reference at lists of vectors. The contract of Peaks of package vec. -/
import Derived.Test.YtihkncnhkljgpaaTopsV
import Derived.Test.YtihkncnhkljgpaaMapsV
import Derived.Test.YtihkncnhkljgpaaKeysV
namespace Go.Proofs.Ytihkncnhkljgpaa
open Go.RowKit

theorem count_take {ls : List (List Int)} {j : Nat} (v : List Int) (h : j < ls.length) : (ls.take (j + 1)).count v = (ls.take j).count v + (if (ls.getD j vz == v) = true then 1 else 0) := by
  rw [take_getDG vz h, List.count_append, List.count_singleton]
set_option maxRecDepth 100000 in
set_option maxHeartbeats 4000000 in
theorem times_is (A : Option Addr) (n cap : Nat) (ls : List (List Int)) (v : List Int) (w : World) (h : RowG E23 w A n cap ls) (hv : VOk v) (hn : n ≤ 5000) : Calls Try.prog 20 #[.slice A n cap, .agg (vc v).toArray] w fun e w' => e = .returned (.int .i64 (ls.count v : Nat)) ∧ Below w.heap.size w w' := by
  have B0 := Lib.hid (new_below w (.cells (vc v).toArray 23))
  have Q0 := Lib.hid (blk_alloc w 23 (vc v))
  have H := Lib.hid (h.below B0.out)
  have HV := Lib.hid hv
  have LN := Lib.hid h.len
  clear h hv
  go_enter Try.func20, Try.ntmps20
  go_wp2_with fail
  go_loopw [5, 6] (fun c ii wr => ∃ i : Nat, i ≤ n ∧ ii = .int .i64 i ∧ c = .int .i64 ((ls.take i).count v : Nat) ∧ Below (w.heap.size + 1) (w.alloc (.cells (vc v).toArray 23)) wr) (fun _ ii _ => n - (intOf ii).toNat)
  case atStart => exact ⟨0, Nat.zero_le _, rfl, rfl, Below.refl _ _⟩
  case round =>
    obtain ⟨i, hi, rfl, rfl, hb⟩ := hrel
    have BB := Lib.hid hb
    have HH := Lib.hid (H.out.below (by simpa using hb))
    have QQ := Lib.hid (Q0.out.below (by simpa using hb))
    have LC := Lib.hid (show (ls.take i).count v ≤ 5000 from Nat.le_trans List.count_le_length (by rw [List.length_take]; omega))
    clear hb
    by_cases hlt : i < n
    · obtain ⟨G, p, hE⟩ := HH.out.elem vz i hlt
      have E := Lib.hid hE
      have CT := Lib.hid (count_take v (ls := ls) (j := i) (by rw [LN.out]; exact hlt))
      obtain ⟨x, hx⟩ : ∃ x, ls.getD i vz = x := ⟨_, rfl⟩
      rw [hx] at E CT
      clear hE hx
      have XO := Lib.hid (show VOk x from E.out.ok)
      obtain ⟨z, hz⟩ : ∃ z, (ls.take i).count v = z := ⟨_, rfl⟩
      rw [hz] at LC CT ⊢
      clear hz
      have hzl := LC.out
      cases hq : (x == v) with
      | true =>
        have HQ := Lib.hid hq
        have CN := Lib.hid (show (ls.take (i + 1)).count v = z + 1 by rw [CT.out, hq, if_pos rfl])
        clear hq
        go_wp2_with fail
        have S1 := Lib.hid (show Below wr.heap.size wr wr.drew from below_drew (Below.refl _ _))
        refine wp_region_noPanic ?_
        refine wp_region_held_drew (S := fun W => Below wr.heap.size wr W) (by kernel_rfl) S1.out (fun _ => ?_)
        refine wpAnyH_take (i := 0) (oi := { dst := some 13, op := Go.Op.move (Go.Operand.tmp 0), type := 39, pos := _, after := #[], guard := none }) (v := ?_) rfl (by kernel_rfl) (by kernel_rfl) (by kernel_rfl) (fun _ _ _ h => h) (Or.inl ⟨by rfl, ?_⟩) S1.out ?_
        rotate_left
        · intro W hW; (go_simp; try with_reducible rfl)
        try simp only [Act.put, List.setIfInBounds_toArray, List.set_cons_zero, List.set_cons_succ]
        refine wpAnyH_take (i := 1) (oi := { dst := some 14, op := Go.Op.move (Go.Operand.tmp 6), type := 3, pos := _, after := #[], guard := none }) (v := ?_) rfl (by kernel_rfl) (by kernel_rfl) (by kernel_rfl) (fun _ _ _ h => h) (Or.inl ⟨by rfl, ?_⟩) S1.out ?_
        rotate_left
        · intro W hW; (go_simp; try with_reducible rfl)
        try simp only [Act.put, List.setIfInBounds_toArray, List.set_cons_zero, List.set_cons_succ]
        refine wpAnyH_take (i := 2) (oi := { dst := some 15, op := Go.Op.indexAddr 39 (Go.Operand.tmp 13) (Go.Operand.tmp 14), type := 0, pos := _, after := #[{ on := 0, ground := Go.Ground.data }, { on := 1, ground := Go.Ground.data }], guard := none }) (v := .pointer (some ⟨G, p, none⟩)) rfl (by kernel_rfl) (by kernel_rfl) (by kernel_rfl) (fun _ _ _ h => h) (Or.inl ⟨by rfl, fun W hW => exec_indexG L23 _ _ rfl A n cap G p i x _ rfl rfl (by first | rfl | omega) E.out⟩) S1.out ?_
        try simp only [Act.put, List.setIfInBounds_toArray, List.set_cons_zero, List.set_cons_succ]
        refine wpAnyH_take (i := 3) (oi := { dst := some 16, op := Go.Op.load 23 (Go.Operand.tmp 15), type := 23, pos := _, after := #[{ on := 2, ground := Go.Ground.data }], guard := none }) (v := .agg (vc x).toArray) rfl (by kernel_rfl) (by kernel_rfl) (by kernel_rfl) (fun _ _ _ h => h) (yieldsIf_load_mid (by rfl) 23 (.tmp 15) rfl G p rfl (vc x) _ (fun W hW => (E.out.below hW).rg) t23.und rfl (t23.size XO.out.len)) S1.out ?_
        try simp only [Act.put, List.setIfInBounds_toArray, List.set_cons_zero, List.set_cons_succ]
        refine wpAnyH_take (i := 4) (oi := { dst := some 17, op := Go.Op.load 23 (Go.Operand.tmp 3), type := 23, pos := _, after := #[], guard := none }) (v := .agg (vc v).toArray) rfl (by kernel_rfl) (by kernel_rfl) (by kernel_rfl) (fun _ _ _ h => h) (yieldsIf_load_mid (by rfl) 23 (.tmp 3) rfl w.heap.size 0 rfl (vc v) _ (fun W hW => (QQ.out.below hW).range) t23.und rfl (t23.size HV.out.len)) S1.out ?_
        try simp only [Act.put, List.setIfInBounds_toArray, List.set_cons_zero, List.set_cons_succ]
        refine wpAnyH_take (i := 5) (oi := { dst := some 18, op := Go.Op.binOp Go.BinOp.eql 23 (Go.Operand.tmp 16) (Go.Operand.tmp 17) 23, type := 4, pos := _, after := #[{ on := 3, ground := Go.Ground.data }, { on := 4, ground := Go.Ground.data }], guard := none }) (v := .bool true) rfl (by kernel_rfl) (by kernel_rfl) (by kernel_rfl) (fun _ _ _ h => h) (Or.inl ⟨by rfl, fun W hW => exec_eq_vr t23 _ _ _ rfl x v rfl rfl XO.out.len HV.out.len HQ.out⟩) S1.out ?_
        try simp only [Act.put, List.setIfInBounds_toArray, List.set_cons_zero, List.set_cons_succ]
        refine wpAnyH_done (by kernel_rfl) ?_ _
        refine NoPanic.normal ?_
        go_wp2_with fail
        go_roundw
        case rel => exact ⟨i + 1, by omega, by go_num, by rw [CN.out]; go_num, BB.out.trans (S1.out.mono (by have := BB.out.size; simpa using this))⟩
        case measure => simp [intOf]; omega
      | false =>
        have HQ := Lib.hid hq
        have CN := Lib.hid (show (ls.take (i + 1)).count v = z by rw [CT.out, hq, if_neg (by decide)]; rfl)
        clear hq
        go_wp2_with fail
        have S1 := Lib.hid (show Below wr.heap.size wr wr.drew from below_drew (Below.refl _ _))
        refine wp_region_noPanic ?_
        refine wp_region_held_drew (S := fun W => Below wr.heap.size wr W) (by kernel_rfl) S1.out (fun _ => ?_)
        refine wpAnyH_take (i := 0) (oi := { dst := some 13, op := Go.Op.move (Go.Operand.tmp 0), type := 39, pos := _, after := #[], guard := none }) (v := ?_) rfl (by kernel_rfl) (by kernel_rfl) (by kernel_rfl) (fun _ _ _ h => h) (Or.inl ⟨by rfl, ?_⟩) S1.out ?_
        rotate_left
        · intro W hW; (go_simp; try with_reducible rfl)
        try simp only [Act.put, List.setIfInBounds_toArray, List.set_cons_zero, List.set_cons_succ]
        refine wpAnyH_take (i := 1) (oi := { dst := some 14, op := Go.Op.move (Go.Operand.tmp 6), type := 3, pos := _, after := #[], guard := none }) (v := ?_) rfl (by kernel_rfl) (by kernel_rfl) (by kernel_rfl) (fun _ _ _ h => h) (Or.inl ⟨by rfl, ?_⟩) S1.out ?_
        rotate_left
        · intro W hW; (go_simp; try with_reducible rfl)
        try simp only [Act.put, List.setIfInBounds_toArray, List.set_cons_zero, List.set_cons_succ]
        refine wpAnyH_take (i := 2) (oi := { dst := some 15, op := Go.Op.indexAddr 39 (Go.Operand.tmp 13) (Go.Operand.tmp 14), type := 0, pos := _, after := #[{ on := 0, ground := Go.Ground.data }, { on := 1, ground := Go.Ground.data }], guard := none }) (v := .pointer (some ⟨G, p, none⟩)) rfl (by kernel_rfl) (by kernel_rfl) (by kernel_rfl) (fun _ _ _ h => h) (Or.inl ⟨by rfl, fun W hW => exec_indexG L23 _ _ rfl A n cap G p i x _ rfl rfl (by first | rfl | omega) E.out⟩) S1.out ?_
        try simp only [Act.put, List.setIfInBounds_toArray, List.set_cons_zero, List.set_cons_succ]
        refine wpAnyH_take (i := 3) (oi := { dst := some 16, op := Go.Op.load 23 (Go.Operand.tmp 15), type := 23, pos := _, after := #[{ on := 2, ground := Go.Ground.data }], guard := none }) (v := .agg (vc x).toArray) rfl (by kernel_rfl) (by kernel_rfl) (by kernel_rfl) (fun _ _ _ h => h) (yieldsIf_load_mid (by rfl) 23 (.tmp 15) rfl G p rfl (vc x) _ (fun W hW => (E.out.below hW).rg) t23.und rfl (t23.size XO.out.len)) S1.out ?_
        try simp only [Act.put, List.setIfInBounds_toArray, List.set_cons_zero, List.set_cons_succ]
        refine wpAnyH_take (i := 4) (oi := { dst := some 17, op := Go.Op.load 23 (Go.Operand.tmp 3), type := 23, pos := _, after := #[], guard := none }) (v := .agg (vc v).toArray) rfl (by kernel_rfl) (by kernel_rfl) (by kernel_rfl) (fun _ _ _ h => h) (yieldsIf_load_mid (by rfl) 23 (.tmp 3) rfl w.heap.size 0 rfl (vc v) _ (fun W hW => (QQ.out.below hW).range) t23.und rfl (t23.size HV.out.len)) S1.out ?_
        try simp only [Act.put, List.setIfInBounds_toArray, List.set_cons_zero, List.set_cons_succ]
        refine wpAnyH_take (i := 5) (oi := { dst := some 18, op := Go.Op.binOp Go.BinOp.eql 23 (Go.Operand.tmp 16) (Go.Operand.tmp 17) 23, type := 4, pos := _, after := #[{ on := 3, ground := Go.Ground.data }, { on := 4, ground := Go.Ground.data }], guard := none }) (v := .bool false) rfl (by kernel_rfl) (by kernel_rfl) (by kernel_rfl) (fun _ _ _ h => h) (Or.inl ⟨by rfl, fun W hW => exec_eq_vr t23 _ _ _ rfl x v rfl rfl XO.out.len HV.out.len HQ.out⟩) S1.out ?_
        try simp only [Act.put, List.setIfInBounds_toArray, List.set_cons_zero, List.set_cons_succ]
        refine wpAnyH_done (by kernel_rfl) ?_ _
        refine NoPanic.normal ?_
        go_wp2_with fail
        go_roundw
        case rel => exact ⟨i + 1, by omega, by go_num, by rw [CN.out], BB.out.trans (S1.out.mono (by have := BB.out.size; simpa using this))⟩
        case measure => simp [intOf]; omega
    · obtain rfl : n = i := by omega
      have TK := Lib.hid (show ls.take n = ls from List.take_of_length_le (by rw [LN.out]; exact Nat.le_refl _))
      rw [TK.out]
      go_wp2_with fail
      go_ret
      exact ⟨rfl, B0.out.trans (BB.out.mono (Nat.le_succ _))⟩
theorem range_allV (p : Nat → Bool) (j : Nat) : (List.range (j + 1)).all p = ((List.range j).all p && p j) := by rw [List.range_succ, List.all_append]; simp
theorem filter_rangeV (p : Nat → Bool) (j : Nat) : (List.range (j + 1)).filter p = (List.range j).filter p ++ (if p j = true then [j] else []) := by rw [List.range_succ, List.filter_append, List.filter_cons, List.filter_nil]
/-- Is the vector i not before the vector k? -/
def nb (ls : List (List Int)) (i k : Nat) : Bool := !decide (vcmp (ls.getD i vz) (ls.getD k vz) = 1)
theorem pkl_nb (ls : List (List Int)) (i : Nat) : (List.range ls.length).all (nb ls i) = pkl ls i := by
  unfold pkl mxl
  rw [Bool.eq_iff_iff, List.all_eq_true, List.all_eq_true]
  constructor
  · intro h u hu
    obtain ⟨k, hk, rfl⟩ := List.getElem_of_mem hu
    have := h k (List.mem_range.2 hk)
    unfold nb at this
    rw [← cmp_one, show ls.getD k vz = ls[k] by rw [List.getD_eq_getElem?_getD, List.getElem?_eq_getElem hk, Option.getD_some]] at this
    exact this
  · intro h k hk
    have hk := List.mem_range.1 hk
    have := h ls[k] (List.getElem_mem hk)
    unfold nb
    rw [← cmp_one, show ls.getD k vz = ls[k] by rw [List.getD_eq_getElem?_getD, List.getElem?_eq_getElem hk, Option.getD_some]]
    exact this
set_option maxRecDepth 100000 in
set_option maxHeartbeats 16000000 in
theorem refPeaks_is (A : Option Addr) (n cap : Nat) (ls : List (List Int)) (w : World) (h : RowG E23 w A n cap ls) (hn : n ≤ 4000) : Calls Try.prog 23 #[.slice A n cap] w (GivesI w (peaksV ls)) := by
  have H := Lib.hid h
  have LN := Lib.hid h.len
  clear h
  go_enter Try.func23, Try.ntmps23
  go_wp2_with fail
  go_loopw [3, 4] (fun v ii wr => ∃ i : Nat, i ≤ n ∧ ii = .int .i64 i ∧ OwnI wr w.heap.size v ((List.range i).filter (pkl ls)) ∧ Below w.heap.size w wr) (fun _ ii _ => n - (intOf ii).toNat)
  case atStart => exact ⟨0, Nat.zero_le _, rfl, ownI_nil _ _, Below.refl _ _⟩
  case round =>
    obtain ⟨i, hi, rfl, ho, hb⟩ := hrel
    obtain ⟨D3, c3, e3⟩ := ho.shape
    subst e3
    have OI := Lib.hid ho
    have BB := Lib.hid hb
    clear ho hb
    by_cases hlt : i < n
    · have LI := Lib.hid (show ((List.range i).filter (pkl ls)).length ≤ 5000 from Nat.le_trans (List.length_filter_le ..) (by rw [List.length_range]; omega))
      have FR := Lib.hid (filter_rangeV (pkl ls) i)
      go_wp2_with fail
      go_loopw [5, 6] (fun t kk wr => ∃ k : Nat, k ≤ n ∧ kk = .int .i64 k ∧ t = .bool ((List.range k).all (nb ls i)) ∧ Below w.heap.size w wr ∧ OwnI wr w.heap.size (.slice D3 ((List.range i).filter (pkl ls)).length c3) ((List.range i).filter (pkl ls))) (fun _ kk _ => n - (intOf kk).toNat)
      case atStart => exact ⟨0, Nat.zero_le _, rfl, rfl, BB.out, OI.out⟩
      case round =>
        obtain ⟨k, hk, rfl, rfl, hb, ho⟩ := hrel
        have BB := Lib.hid hb
        have OI := Lib.hid ho
        clear hb ho
        by_cases hlk : k < n
        · obtain ⟨G, p, hE⟩ := (H.out.below BB.out).elem vz i hlt
          obtain ⟨G2, p2, hF⟩ := (H.out.below BB.out).elem vz k hlk
          have E := Lib.hid hE
          have F := Lib.hid hF
          have RN := Lib.hid (range_allV (nb ls i) k)
          have NB := Lib.hid (show nb ls i k = !decide (vcmp (ls.getD i vz) (ls.getD k vz) = 1) from rfl)
          clear hE hF
          obtain ⟨x, hx⟩ : ∃ x, ls.getD i vz = x := ⟨_, rfl⟩
          obtain ⟨y, hy⟩ : ∃ y, ls.getD k vz = y := ⟨_, rfl⟩
          rw [hx] at E NB
          rw [hy] at F NB
          obtain ⟨z, hz⟩ : ∃ z, vcmp x y = z := ⟨_, rfl⟩
          have HZ := Lib.hid hz
          rw [hz] at NB
          have XO := Lib.hid (show VOk x from E.out.ok)
          have YO := Lib.hid (show VOk y from F.out.ok)
          clear hz hx hy
          cases ht : (List.range k).all (nb ls i) with
          | false =>
            have RA := Lib.hid (show (List.range (k + 1)).all (nb ls i) = false by rw [RN.out, ht]; rfl)
            clear ht
            go_wp2_with fail
            have S1 := Lib.hid (show Below wr.heap.size wr wr.drew from below_drew (Below.refl _ _))
            refine wp_region_noPanic ?_
            refine wp_region_held_drew (S := fun W => Below wr.heap.size wr W) (by kernel_rfl) S1.out (fun _ => ?_)
            refine wpAnyH_take (i := 0) (oi := { dst := some 19, op := Go.Op.move (Go.Operand.tmp 5), type := 4, pos := _, after := #[], guard := none }) (v := ?_) rfl (by kernel_rfl) (by kernel_rfl) (by kernel_rfl) (fun _ _ _ h => h) (Or.inl ⟨by rfl, ?_⟩) S1.out ?_
            rotate_left
            · intro W hW; (go_simp; try with_reducible rfl)
            try simp only [Act.put, List.setIfInBounds_toArray, List.set_cons_zero, List.set_cons_succ]
            refine wpAnyH_take (i := 1) (oi := { dst := some 20, op := Go.Op.move (Go.Operand.tmp 19), type := 4, pos := _, after := #[{ on := 0, ground := Go.Ground.data }], guard := none }) (v := ?_) rfl (by kernel_rfl) (by kernel_rfl) (by kernel_rfl) (fun _ _ _ h => h) (Or.inl ⟨by rfl, ?_⟩) S1.out ?_
            rotate_left
            · intro W hW; (go_simp; try with_reducible rfl)
            try simp only [Act.put, List.setIfInBounds_toArray, List.set_cons_zero, List.set_cons_succ]
            refine wpAnyH_take (i := 2) (oi := { dst := some 21, op := Go.Op.move (Go.Operand.tmp 0), type := 39, pos := _, after := #[{ on := 1, ground := Go.Ground.guard }], guard := some (1, true) }) (v := undef) rfl (by kernel_rfl) (by kernel_rfl) (by kernel_rfl) (fun _ _ _ h => h) (Or.inr ⟨by rfl, rfl⟩) S1.out ?_
            try simp only [Act.put, List.setIfInBounds_toArray, List.set_cons_zero, List.set_cons_succ]
            refine wpAnyH_take (i := 3) (oi := { dst := some 22, op := Go.Op.move (Go.Operand.tmp 4), type := 3, pos := _, after := #[{ on := 1, ground := Go.Ground.guard }], guard := some (1, true) }) (v := undef) rfl (by kernel_rfl) (by kernel_rfl) (by kernel_rfl) (fun _ _ _ h => h) (Or.inr ⟨by rfl, rfl⟩) S1.out ?_
            try simp only [Act.put, List.setIfInBounds_toArray, List.set_cons_zero, List.set_cons_succ]
            refine wpAnyH_take (i := 4) (oi := { dst := some 23, op := Go.Op.indexAddr 39 (Go.Operand.tmp 21) (Go.Operand.tmp 22), type := 0, pos := _, after := #[{ on := 2, ground := Go.Ground.data }, { on := 3, ground := Go.Ground.data }, { on := 1, ground := Go.Ground.guard }], guard := some (1, true) }) (v := undef) rfl (by kernel_rfl) (by kernel_rfl) (by kernel_rfl) (fun _ _ _ h => h) (Or.inr ⟨by rfl, rfl⟩) S1.out ?_
            try simp only [Act.put, List.setIfInBounds_toArray, List.set_cons_zero, List.set_cons_succ]
            refine wpAnyH_take (i := 5) (oi := { dst := some 24, op := Go.Op.load 23 (Go.Operand.tmp 23), type := 23, pos := _, after := #[{ on := 4, ground := Go.Ground.data }, { on := 1, ground := Go.Ground.guard }], guard := some (1, true) }) (v := undef) rfl (by kernel_rfl) (by kernel_rfl) (by kernel_rfl) (fun _ _ _ h => h) (Or.inr ⟨by rfl, rfl⟩) S1.out ?_
            try simp only [Act.put, List.setIfInBounds_toArray, List.set_cons_zero, List.set_cons_succ]
            refine wpAnyH_take (i := 6) (oi := { dst := some 25, op := Go.Op.move (Go.Operand.tmp 0), type := 39, pos := _, after := #[{ on := 1, ground := Go.Ground.guard }], guard := some (1, true) }) (v := undef) rfl (by kernel_rfl) (by kernel_rfl) (by kernel_rfl) (fun _ _ _ h => h) (Or.inr ⟨by rfl, rfl⟩) S1.out ?_
            try simp only [Act.put, List.setIfInBounds_toArray, List.set_cons_zero, List.set_cons_succ]
            refine wpAnyH_take (i := 7) (oi := { dst := some 26, op := Go.Op.move (Go.Operand.tmp 6), type := 3, pos := _, after := #[{ on := 1, ground := Go.Ground.guard }], guard := some (1, true) }) (v := undef) rfl (by kernel_rfl) (by kernel_rfl) (by kernel_rfl) (fun _ _ _ h => h) (Or.inr ⟨by rfl, rfl⟩) S1.out ?_
            try simp only [Act.put, List.setIfInBounds_toArray, List.set_cons_zero, List.set_cons_succ]
            refine wpAnyH_take (i := 8) (oi := { dst := some 27, op := Go.Op.indexAddr 39 (Go.Operand.tmp 25) (Go.Operand.tmp 26), type := 0, pos := _, after := #[{ on := 6, ground := Go.Ground.data }, { on := 7, ground := Go.Ground.data }, { on := 1, ground := Go.Ground.guard }], guard := some (1, true) }) (v := undef) rfl (by kernel_rfl) (by kernel_rfl) (by kernel_rfl) (fun _ _ _ h => h) (Or.inr ⟨by rfl, rfl⟩) S1.out ?_
            try simp only [Act.put, List.setIfInBounds_toArray, List.set_cons_zero, List.set_cons_succ]
            refine wpAnyH_take (i := 9) (oi := { dst := some 28, op := Go.Op.load 23 (Go.Operand.tmp 27), type := 23, pos := _, after := #[{ on := 8, ground := Go.Ground.data }, { on := 1, ground := Go.Ground.guard }], guard := some (1, true) }) (v := undef) rfl (by kernel_rfl) (by kernel_rfl) (by kernel_rfl) (fun _ _ _ h => h) (Or.inr ⟨by rfl, rfl⟩) S1.out ?_
            try simp only [Act.put, List.setIfInBounds_toArray, List.set_cons_zero, List.set_cons_succ]
            refine wpAnyH_take (i := 10) (oi := { dst := some 29, op := Go.Op.call { callee := Go.Callee.value (Go.Operand.func 14), args := #[Go.Operand.tmp 24, Go.Operand.tmp 28], argTypes := #[23, 23] }, type := 3, pos := _, after := #[{ on := 5, ground := Go.Ground.data }, { on := 9, ground := Go.Ground.data }, { on := 1, ground := Go.Ground.chain }, { on := 1, ground := Go.Ground.guard }], guard := some (1, true) }) (v := undef) rfl (by kernel_rfl) (by kernel_rfl) (by kernel_rfl) (fun _ _ _ h => h) (Or.inr ⟨by rfl, rfl⟩) S1.out ?_
            try simp only [Act.put, List.setIfInBounds_toArray, List.set_cons_zero, List.set_cons_succ]
            refine wpAnyH_take (i := 11) (oi := { dst := some 30, op := Go.Op.binOp Go.BinOp.neq 3 (Go.Operand.tmp 29) (Go.Operand.const (Go.Value.int Go.IntKind.i64 1)) 3, type := 4, pos := _, after := #[{ on := 10, ground := Go.Ground.data }, { on := 1, ground := Go.Ground.guard }], guard := some (1, true) }) (v := undef) rfl (by kernel_rfl) (by kernel_rfl) (by kernel_rfl) (fun _ _ _ h => h) (Or.inr ⟨by rfl, rfl⟩) S1.out ?_
            try simp only [Act.put, List.setIfInBounds_toArray, List.set_cons_zero, List.set_cons_succ]
            refine wpAnyH_take (i := 12) (oi := { dst := some 31, op := Go.Op.pick (Go.Operand.tmp 20) (Go.Operand.tmp 30) (Go.Operand.const (Go.Value.bool false)), type := 4, pos := _, after := #[{ on := 1, ground := Go.Ground.data }, { on := 11, ground := Go.Ground.data }], guard := none }) (v := ?_) rfl (by kernel_rfl) (by kernel_rfl) (by kernel_rfl) (fun _ _ _ h => h) (Or.inl ⟨by rfl, ?_⟩) S1.out ?_
            rotate_left
            · intro W hW; (go_simp; try with_reducible rfl)
            try simp only [Act.put, List.setIfInBounds_toArray, List.set_cons_zero, List.set_cons_succ]
            refine wpAnyH_take (i := 13) (oi := { dst := some 5, op := Go.Op.assign (Go.Operand.tmp 31), type := 4, pos := _, after := #[{ on := 12, ground := Go.Ground.data }, { on := 10, ground := Go.Ground.chain }, { on := 0, ground := Go.Ground.phase }, { on := 1, ground := Go.Ground.phase }, { on := 2, ground := Go.Ground.phase }, { on := 3, ground := Go.Ground.phase }, { on := 4, ground := Go.Ground.phase }, { on := 5, ground := Go.Ground.phase }, { on := 6, ground := Go.Ground.phase }, { on := 7, ground := Go.Ground.phase }, { on := 8, ground := Go.Ground.phase }, { on := 9, ground := Go.Ground.phase }, { on := 10, ground := Go.Ground.phase }, { on := 11, ground := Go.Ground.phase }, { on := 12, ground := Go.Ground.phase }], guard := none }) (v := ?_) rfl (by kernel_rfl) (by kernel_rfl) (by kernel_rfl) (fun _ _ _ h => h) (Or.inl ⟨by rfl, ?_⟩) S1.out ?_
            rotate_left
            · intro W hW; (go_simp; try with_reducible rfl)
            try simp only [Act.put, List.setIfInBounds_toArray, List.set_cons_zero, List.set_cons_succ]
            refine wpAnyH_done (by kernel_rfl) ?_ _
            refine NoPanic.normal ?_
            go_wp2_with fail
            go_roundw
            case rel => exact ⟨k + 1, by omega, by go_num, by rw [RA.out], BB.out.trans (S1.out.mono BB.out.size), OI.out.below S1.out⟩
            case measure => simp [intOf]; omega
          | true =>
            by_cases hz1 : z = 1
            · have RA := Lib.hid (show (List.range (k + 1)).all (nb ls i) = false by rw [RN.out, NB.out, hz1]; simp)
              have hzb : (z == 1) = true := by rw [hz1]; rfl
              clear ht hz1
              go_wp2_with fail
              have S1 := Lib.hid (show Below wr.heap.size wr wr.drew from below_drew (Below.refl _ _))
              refine wp_region_noPanic ?_
              refine wp_region_held_drew (S := fun W => Below wr.heap.size wr W) (by kernel_rfl) S1.out (fun _ => ?_)
              refine wpAnyH_take (i := 0) (oi := { dst := some 19, op := Go.Op.move (Go.Operand.tmp 5), type := 4, pos := _, after := #[], guard := none }) (v := ?_) rfl (by kernel_rfl) (by kernel_rfl) (by kernel_rfl) (fun _ _ _ h => h) (Or.inl ⟨by rfl, ?_⟩) S1.out ?_
              rotate_left
              · intro W hW; (go_simp; try with_reducible rfl)
              try simp only [Act.put, List.setIfInBounds_toArray, List.set_cons_zero, List.set_cons_succ]
              refine wpAnyH_take (i := 1) (oi := { dst := some 20, op := Go.Op.move (Go.Operand.tmp 19), type := 4, pos := _, after := #[{ on := 0, ground := Go.Ground.data }], guard := none }) (v := ?_) rfl (by kernel_rfl) (by kernel_rfl) (by kernel_rfl) (fun _ _ _ h => h) (Or.inl ⟨by rfl, ?_⟩) S1.out ?_
              rotate_left
              · intro W hW; (go_simp; try with_reducible rfl)
              try simp only [Act.put, List.setIfInBounds_toArray, List.set_cons_zero, List.set_cons_succ]
              refine wpAnyH_take (i := 2) (oi := { dst := some 21, op := Go.Op.move (Go.Operand.tmp 0), type := 39, pos := _, after := #[{ on := 1, ground := Go.Ground.guard }], guard := some (1, true) }) (v := ?_) rfl (by kernel_rfl) (by kernel_rfl) (by kernel_rfl) (fun _ _ _ h => h) (Or.inl ⟨by rfl, ?_⟩) S1.out ?_
              rotate_left
              · intro W hW; (go_simp; try with_reducible rfl)
              try simp only [Act.put, List.setIfInBounds_toArray, List.set_cons_zero, List.set_cons_succ]
              refine wpAnyH_take (i := 3) (oi := { dst := some 22, op := Go.Op.move (Go.Operand.tmp 4), type := 3, pos := _, after := #[{ on := 1, ground := Go.Ground.guard }], guard := some (1, true) }) (v := ?_) rfl (by kernel_rfl) (by kernel_rfl) (by kernel_rfl) (fun _ _ _ h => h) (Or.inl ⟨by rfl, ?_⟩) S1.out ?_
              rotate_left
              · intro W hW; (go_simp; try with_reducible rfl)
              try simp only [Act.put, List.setIfInBounds_toArray, List.set_cons_zero, List.set_cons_succ]
              refine wpAnyH_take (i := 4) (oi := { dst := some 23, op := Go.Op.indexAddr 39 (Go.Operand.tmp 21) (Go.Operand.tmp 22), type := 0, pos := _, after := #[{ on := 2, ground := Go.Ground.data }, { on := 3, ground := Go.Ground.data }, { on := 1, ground := Go.Ground.guard }], guard := some (1, true) }) (v := .pointer (some ⟨G, p, none⟩)) rfl (by kernel_rfl) (by kernel_rfl) (by kernel_rfl) (fun _ _ _ h => h) (Or.inl ⟨by rfl, fun W hW => exec_indexG L23 _ _ rfl A n cap G p i x _ rfl rfl (by first | rfl | omega) E.out⟩) S1.out ?_
              try simp only [Act.put, List.setIfInBounds_toArray, List.set_cons_zero, List.set_cons_succ]
              refine wpAnyH_take (i := 5) (oi := { dst := some 24, op := Go.Op.load 23 (Go.Operand.tmp 23), type := 23, pos := _, after := #[{ on := 4, ground := Go.Ground.data }, { on := 1, ground := Go.Ground.guard }], guard := some (1, true) }) (v := .agg (vc x).toArray) rfl (by kernel_rfl) (by kernel_rfl) (by kernel_rfl) (fun _ _ _ h => h) (yieldsIf_load_mid (by rfl) 23 (.tmp 23) rfl G p rfl (vc x) _ (fun W hW => (E.out.below hW).rg) t23.und rfl (t23.size XO.out.len)) S1.out ?_
              try simp only [Act.put, List.setIfInBounds_toArray, List.set_cons_zero, List.set_cons_succ]
              refine wpAnyH_take (i := 6) (oi := { dst := some 25, op := Go.Op.move (Go.Operand.tmp 0), type := 39, pos := _, after := #[{ on := 1, ground := Go.Ground.guard }], guard := some (1, true) }) (v := ?_) rfl (by kernel_rfl) (by kernel_rfl) (by kernel_rfl) (fun _ _ _ h => h) (Or.inl ⟨by rfl, ?_⟩) S1.out ?_
              rotate_left
              · intro W hW; (go_simp; try with_reducible rfl)
              try simp only [Act.put, List.setIfInBounds_toArray, List.set_cons_zero, List.set_cons_succ]
              refine wpAnyH_take (i := 7) (oi := { dst := some 26, op := Go.Op.move (Go.Operand.tmp 6), type := 3, pos := _, after := #[{ on := 1, ground := Go.Ground.guard }], guard := some (1, true) }) (v := ?_) rfl (by kernel_rfl) (by kernel_rfl) (by kernel_rfl) (fun _ _ _ h => h) (Or.inl ⟨by rfl, ?_⟩) S1.out ?_
              rotate_left
              · intro W hW; (go_simp; try with_reducible rfl)
              try simp only [Act.put, List.setIfInBounds_toArray, List.set_cons_zero, List.set_cons_succ]
              refine wpAnyH_take (i := 8) (oi := { dst := some 27, op := Go.Op.indexAddr 39 (Go.Operand.tmp 25) (Go.Operand.tmp 26), type := 0, pos := _, after := #[{ on := 6, ground := Go.Ground.data }, { on := 7, ground := Go.Ground.data }, { on := 1, ground := Go.Ground.guard }], guard := some (1, true) }) (v := .pointer (some ⟨G2, p2, none⟩)) rfl (by kernel_rfl) (by kernel_rfl) (by kernel_rfl) (fun _ _ _ h => h) (Or.inl ⟨by rfl, fun W hW => exec_indexG L23 _ _ rfl A n cap G2 p2 k y _ rfl rfl (by first | rfl | omega) F.out⟩) S1.out ?_
              try simp only [Act.put, List.setIfInBounds_toArray, List.set_cons_zero, List.set_cons_succ]
              refine wpAnyH_take (i := 9) (oi := { dst := some 28, op := Go.Op.load 23 (Go.Operand.tmp 27), type := 23, pos := _, after := #[{ on := 8, ground := Go.Ground.data }, { on := 1, ground := Go.Ground.guard }], guard := some (1, true) }) (v := .agg (vc y).toArray) rfl (by kernel_rfl) (by kernel_rfl) (by kernel_rfl) (fun _ _ _ h => h) (yieldsIf_load_mid (by rfl) 23 (.tmp 27) rfl G2 p2 rfl (vc y) _ (fun W hW => (F.out.below hW).rg) t23.und rfl (t23.size YO.out.len)) S1.out ?_
              try simp only [Act.put, List.setIfInBounds_toArray, List.set_cons_zero, List.set_cons_succ]
              refine wpAnyH_ready (rs := [10]) (by kernel_rfl) (by simp) ?_
              refine AllReadyH.cons (o := { dst := some 29, op := Go.Op.call { callee := Go.Callee.value (Go.Operand.func 14), args := #[Go.Operand.tmp 24, Go.Operand.tmp 28], argTypes := #[23, 23] }, type := 3, pos := _, after := #[{ on := 5, ground := Go.Ground.data }, { on := 9, ground := Go.Ground.data }, { on := 1, ground := Go.Ground.chain }, { on := 1, ground := Go.Ground.guard }], guard := some (1, true) }) rfl (fun K hK => ?_) AllReadyH.nil
              go_simp
              refine (refCompare_v x y z _ XO.out.len YO.out.len HZ).mono ?_
              rintro e w3 ⟨rfl, b3⟩
              have S2 := Lib.hid (step_ S1.out b3)
              clear b3
              go_wp2_with fail
              refine hK.out _ _ ?_ (fun _ => ?_)
              · exact S2.out
              clear hK K
              try simp only [Act.put, List.setIfInBounds_toArray, List.set_cons_zero, List.set_cons_succ]
              refine wpAnyH_take (i := 11) (oi := { dst := some 30, op := Go.Op.binOp Go.BinOp.neq 3 (Go.Operand.tmp 29) (Go.Operand.const (Go.Value.int Go.IntKind.i64 1)) 3, type := 4, pos := _, after := #[{ on := 10, ground := Go.Ground.data }, { on := 1, ground := Go.Ground.guard }], guard := some (1, true) }) (v := ?_) rfl (by kernel_rfl) (by kernel_rfl) (by kernel_rfl) (fun _ _ _ h => h) (Or.inl ⟨by rfl, ?_⟩) S2.out ?_
              rotate_left
              · intro W hW; (go_simp; try with_reducible rfl)
              try simp only [Act.put, List.setIfInBounds_toArray, List.set_cons_zero, List.set_cons_succ]
              refine wpAnyH_take (i := 12) (oi := { dst := some 31, op := Go.Op.pick (Go.Operand.tmp 20) (Go.Operand.tmp 30) (Go.Operand.const (Go.Value.bool false)), type := 4, pos := _, after := #[{ on := 1, ground := Go.Ground.data }, { on := 11, ground := Go.Ground.data }], guard := none }) (v := ?_) rfl (by kernel_rfl) (by kernel_rfl) (by kernel_rfl) (fun _ _ _ h => h) (Or.inl ⟨by rfl, ?_⟩) S2.out ?_
              rotate_left
              · intro W hW; (go_simp; try with_reducible rfl)
              try simp only [Act.put, List.setIfInBounds_toArray, List.set_cons_zero, List.set_cons_succ]
              refine wpAnyH_take (i := 13) (oi := { dst := some 5, op := Go.Op.assign (Go.Operand.tmp 31), type := 4, pos := _, after := #[{ on := 12, ground := Go.Ground.data }, { on := 10, ground := Go.Ground.chain }, { on := 0, ground := Go.Ground.phase }, { on := 1, ground := Go.Ground.phase }, { on := 2, ground := Go.Ground.phase }, { on := 3, ground := Go.Ground.phase }, { on := 4, ground := Go.Ground.phase }, { on := 5, ground := Go.Ground.phase }, { on := 6, ground := Go.Ground.phase }, { on := 7, ground := Go.Ground.phase }, { on := 8, ground := Go.Ground.phase }, { on := 9, ground := Go.Ground.phase }, { on := 10, ground := Go.Ground.phase }, { on := 11, ground := Go.Ground.phase }, { on := 12, ground := Go.Ground.phase }], guard := none }) (v := ?_) rfl (by kernel_rfl) (by kernel_rfl) (by kernel_rfl) (fun _ _ _ h => h) (Or.inl ⟨by rfl, ?_⟩) S2.out ?_
              rotate_left
              · intro W hW; (go_simp; try with_reducible rfl)
              try simp only [Act.put, List.setIfInBounds_toArray, List.set_cons_zero, List.set_cons_succ]
              refine wpAnyH_done (by kernel_rfl) ?_ _
              refine NoPanic.normal ?_
              go_wp2_with fail
              go_roundw
              case rel => exact ⟨k + 1, by omega, by go_num, by rw [RA.out]; unfold bne; rw [hzb]; rfl, BB.out.trans (S2.out.mono BB.out.size), OI.out.below S2.out⟩
              case measure => simp [intOf]; omega
            · have RA := Lib.hid (show (List.range (k + 1)).all (nb ls i) = true by rw [RN.out, NB.out, ht]; simp [hz1])
              have hzb : (z == 1) = false := by simp [hz1]
              clear ht hz1
              go_wp2_with fail
              have S1 := Lib.hid (show Below wr.heap.size wr wr.drew from below_drew (Below.refl _ _))
              refine wp_region_noPanic ?_
              refine wp_region_held_drew (S := fun W => Below wr.heap.size wr W) (by kernel_rfl) S1.out (fun _ => ?_)
              refine wpAnyH_take (i := 0) (oi := { dst := some 19, op := Go.Op.move (Go.Operand.tmp 5), type := 4, pos := _, after := #[], guard := none }) (v := ?_) rfl (by kernel_rfl) (by kernel_rfl) (by kernel_rfl) (fun _ _ _ h => h) (Or.inl ⟨by rfl, ?_⟩) S1.out ?_
              rotate_left
              · intro W hW; (go_simp; try with_reducible rfl)
              try simp only [Act.put, List.setIfInBounds_toArray, List.set_cons_zero, List.set_cons_succ]
              refine wpAnyH_take (i := 1) (oi := { dst := some 20, op := Go.Op.move (Go.Operand.tmp 19), type := 4, pos := _, after := #[{ on := 0, ground := Go.Ground.data }], guard := none }) (v := ?_) rfl (by kernel_rfl) (by kernel_rfl) (by kernel_rfl) (fun _ _ _ h => h) (Or.inl ⟨by rfl, ?_⟩) S1.out ?_
              rotate_left
              · intro W hW; (go_simp; try with_reducible rfl)
              try simp only [Act.put, List.setIfInBounds_toArray, List.set_cons_zero, List.set_cons_succ]
              refine wpAnyH_take (i := 2) (oi := { dst := some 21, op := Go.Op.move (Go.Operand.tmp 0), type := 39, pos := _, after := #[{ on := 1, ground := Go.Ground.guard }], guard := some (1, true) }) (v := ?_) rfl (by kernel_rfl) (by kernel_rfl) (by kernel_rfl) (fun _ _ _ h => h) (Or.inl ⟨by rfl, ?_⟩) S1.out ?_
              rotate_left
              · intro W hW; (go_simp; try with_reducible rfl)
              try simp only [Act.put, List.setIfInBounds_toArray, List.set_cons_zero, List.set_cons_succ]
              refine wpAnyH_take (i := 3) (oi := { dst := some 22, op := Go.Op.move (Go.Operand.tmp 4), type := 3, pos := _, after := #[{ on := 1, ground := Go.Ground.guard }], guard := some (1, true) }) (v := ?_) rfl (by kernel_rfl) (by kernel_rfl) (by kernel_rfl) (fun _ _ _ h => h) (Or.inl ⟨by rfl, ?_⟩) S1.out ?_
              rotate_left
              · intro W hW; (go_simp; try with_reducible rfl)
              try simp only [Act.put, List.setIfInBounds_toArray, List.set_cons_zero, List.set_cons_succ]
              refine wpAnyH_take (i := 4) (oi := { dst := some 23, op := Go.Op.indexAddr 39 (Go.Operand.tmp 21) (Go.Operand.tmp 22), type := 0, pos := _, after := #[{ on := 2, ground := Go.Ground.data }, { on := 3, ground := Go.Ground.data }, { on := 1, ground := Go.Ground.guard }], guard := some (1, true) }) (v := .pointer (some ⟨G, p, none⟩)) rfl (by kernel_rfl) (by kernel_rfl) (by kernel_rfl) (fun _ _ _ h => h) (Or.inl ⟨by rfl, fun W hW => exec_indexG L23 _ _ rfl A n cap G p i x _ rfl rfl (by first | rfl | omega) E.out⟩) S1.out ?_
              try simp only [Act.put, List.setIfInBounds_toArray, List.set_cons_zero, List.set_cons_succ]
              refine wpAnyH_take (i := 5) (oi := { dst := some 24, op := Go.Op.load 23 (Go.Operand.tmp 23), type := 23, pos := _, after := #[{ on := 4, ground := Go.Ground.data }, { on := 1, ground := Go.Ground.guard }], guard := some (1, true) }) (v := .agg (vc x).toArray) rfl (by kernel_rfl) (by kernel_rfl) (by kernel_rfl) (fun _ _ _ h => h) (yieldsIf_load_mid (by rfl) 23 (.tmp 23) rfl G p rfl (vc x) _ (fun W hW => (E.out.below hW).rg) t23.und rfl (t23.size XO.out.len)) S1.out ?_
              try simp only [Act.put, List.setIfInBounds_toArray, List.set_cons_zero, List.set_cons_succ]
              refine wpAnyH_take (i := 6) (oi := { dst := some 25, op := Go.Op.move (Go.Operand.tmp 0), type := 39, pos := _, after := #[{ on := 1, ground := Go.Ground.guard }], guard := some (1, true) }) (v := ?_) rfl (by kernel_rfl) (by kernel_rfl) (by kernel_rfl) (fun _ _ _ h => h) (Or.inl ⟨by rfl, ?_⟩) S1.out ?_
              rotate_left
              · intro W hW; (go_simp; try with_reducible rfl)
              try simp only [Act.put, List.setIfInBounds_toArray, List.set_cons_zero, List.set_cons_succ]
              refine wpAnyH_take (i := 7) (oi := { dst := some 26, op := Go.Op.move (Go.Operand.tmp 6), type := 3, pos := _, after := #[{ on := 1, ground := Go.Ground.guard }], guard := some (1, true) }) (v := ?_) rfl (by kernel_rfl) (by kernel_rfl) (by kernel_rfl) (fun _ _ _ h => h) (Or.inl ⟨by rfl, ?_⟩) S1.out ?_
              rotate_left
              · intro W hW; (go_simp; try with_reducible rfl)
              try simp only [Act.put, List.setIfInBounds_toArray, List.set_cons_zero, List.set_cons_succ]
              refine wpAnyH_take (i := 8) (oi := { dst := some 27, op := Go.Op.indexAddr 39 (Go.Operand.tmp 25) (Go.Operand.tmp 26), type := 0, pos := _, after := #[{ on := 6, ground := Go.Ground.data }, { on := 7, ground := Go.Ground.data }, { on := 1, ground := Go.Ground.guard }], guard := some (1, true) }) (v := .pointer (some ⟨G2, p2, none⟩)) rfl (by kernel_rfl) (by kernel_rfl) (by kernel_rfl) (fun _ _ _ h => h) (Or.inl ⟨by rfl, fun W hW => exec_indexG L23 _ _ rfl A n cap G2 p2 k y _ rfl rfl (by first | rfl | omega) F.out⟩) S1.out ?_
              try simp only [Act.put, List.setIfInBounds_toArray, List.set_cons_zero, List.set_cons_succ]
              refine wpAnyH_take (i := 9) (oi := { dst := some 28, op := Go.Op.load 23 (Go.Operand.tmp 27), type := 23, pos := _, after := #[{ on := 8, ground := Go.Ground.data }, { on := 1, ground := Go.Ground.guard }], guard := some (1, true) }) (v := .agg (vc y).toArray) rfl (by kernel_rfl) (by kernel_rfl) (by kernel_rfl) (fun _ _ _ h => h) (yieldsIf_load_mid (by rfl) 23 (.tmp 27) rfl G2 p2 rfl (vc y) _ (fun W hW => (F.out.below hW).rg) t23.und rfl (t23.size YO.out.len)) S1.out ?_
              try simp only [Act.put, List.setIfInBounds_toArray, List.set_cons_zero, List.set_cons_succ]
              refine wpAnyH_ready (rs := [10]) (by kernel_rfl) (by simp) ?_
              refine AllReadyH.cons (o := { dst := some 29, op := Go.Op.call { callee := Go.Callee.value (Go.Operand.func 14), args := #[Go.Operand.tmp 24, Go.Operand.tmp 28], argTypes := #[23, 23] }, type := 3, pos := _, after := #[{ on := 5, ground := Go.Ground.data }, { on := 9, ground := Go.Ground.data }, { on := 1, ground := Go.Ground.chain }, { on := 1, ground := Go.Ground.guard }], guard := some (1, true) }) rfl (fun K hK => ?_) AllReadyH.nil
              go_simp
              refine (refCompare_v x y z _ XO.out.len YO.out.len HZ).mono ?_
              rintro e w3 ⟨rfl, b3⟩
              have S2 := Lib.hid (step_ S1.out b3)
              clear b3
              go_wp2_with fail
              refine hK.out _ _ ?_ (fun _ => ?_)
              · exact S2.out
              clear hK K
              try simp only [Act.put, List.setIfInBounds_toArray, List.set_cons_zero, List.set_cons_succ]
              refine wpAnyH_take (i := 11) (oi := { dst := some 30, op := Go.Op.binOp Go.BinOp.neq 3 (Go.Operand.tmp 29) (Go.Operand.const (Go.Value.int Go.IntKind.i64 1)) 3, type := 4, pos := _, after := #[{ on := 10, ground := Go.Ground.data }, { on := 1, ground := Go.Ground.guard }], guard := some (1, true) }) (v := ?_) rfl (by kernel_rfl) (by kernel_rfl) (by kernel_rfl) (fun _ _ _ h => h) (Or.inl ⟨by rfl, ?_⟩) S2.out ?_
              rotate_left
              · intro W hW; (go_simp; try with_reducible rfl)
              try simp only [Act.put, List.setIfInBounds_toArray, List.set_cons_zero, List.set_cons_succ]
              refine wpAnyH_take (i := 12) (oi := { dst := some 31, op := Go.Op.pick (Go.Operand.tmp 20) (Go.Operand.tmp 30) (Go.Operand.const (Go.Value.bool false)), type := 4, pos := _, after := #[{ on := 1, ground := Go.Ground.data }, { on := 11, ground := Go.Ground.data }], guard := none }) (v := ?_) rfl (by kernel_rfl) (by kernel_rfl) (by kernel_rfl) (fun _ _ _ h => h) (Or.inl ⟨by rfl, ?_⟩) S2.out ?_
              rotate_left
              · intro W hW; (go_simp; try with_reducible rfl)
              try simp only [Act.put, List.setIfInBounds_toArray, List.set_cons_zero, List.set_cons_succ]
              refine wpAnyH_take (i := 13) (oi := { dst := some 5, op := Go.Op.assign (Go.Operand.tmp 31), type := 4, pos := _, after := #[{ on := 12, ground := Go.Ground.data }, { on := 10, ground := Go.Ground.chain }, { on := 0, ground := Go.Ground.phase }, { on := 1, ground := Go.Ground.phase }, { on := 2, ground := Go.Ground.phase }, { on := 3, ground := Go.Ground.phase }, { on := 4, ground := Go.Ground.phase }, { on := 5, ground := Go.Ground.phase }, { on := 6, ground := Go.Ground.phase }, { on := 7, ground := Go.Ground.phase }, { on := 8, ground := Go.Ground.phase }, { on := 9, ground := Go.Ground.phase }, { on := 10, ground := Go.Ground.phase }, { on := 11, ground := Go.Ground.phase }, { on := 12, ground := Go.Ground.phase }], guard := none }) (v := ?_) rfl (by kernel_rfl) (by kernel_rfl) (by kernel_rfl) (fun _ _ _ h => h) (Or.inl ⟨by rfl, ?_⟩) S2.out ?_
              rotate_left
              · intro W hW; (go_simp; try with_reducible rfl)
              try simp only [Act.put, List.setIfInBounds_toArray, List.set_cons_zero, List.set_cons_succ]
              refine wpAnyH_done (by kernel_rfl) ?_ _
              refine NoPanic.normal ?_
              go_wp2_with fail
              go_roundw
              case rel => exact ⟨k + 1, by omega, by go_num, by rw [RA.out]; unfold bne; rw [hzb]; rfl, BB.out.trans (S2.out.mono BB.out.size), OI.out.below S2.out⟩
              case measure => simp [intOf]; omega
        · obtain rfl : n = k := by omega
          have PK := Lib.hid (show (List.range n).all (nb ls i) = pkl ls i by rw [← LN.out]; exact pkl_nb ls i)
          rw [PK.out]
          cases hp : pkl ls i with
          | true =>
            have FR2 := Lib.hid (show (List.range (i + 1)).filter (pkl ls) = (List.range i).filter (pkl ls) ++ [i] by rw [FR.out, hp]; rfl)
            clear hp
            go_wp2_with (first
              | go_skip
              | (refine wpList_ints1 rfl _ rfl (i : Int) rfl ?_; intro g6 w6 e6 N6 B6)
              | (refine wpList_app_i rfl _ _ rfl w.heap.size _ ((List.range i).filter (pkl ls)) i g6 rfl rfl (OI.out.below B6.out) N6.out LI.out (Nat.le_trans BB.out.size B6.out.size) ?_; intro D7 m7 c7 w7 e7 O7 B7 G7))
            go_roundw
            case rel => exact ⟨i + 1, by omega, by go_num, by rw [FR2.out]; exact O7.out, (step_ BB.out B6.out).trans B7.out⟩
            case measure => simp [intOf]; omega
          | false =>
            have FR2 := Lib.hid (show (List.range (i + 1)).filter (pkl ls) = (List.range i).filter (pkl ls) by rw [FR.out, hp]; simp)
            clear hp
            go_wp2_with fail
            go_roundw
            case rel => exact ⟨i + 1, by omega, by go_num, by rw [FR2.out]; exact OI.out, BB.out⟩
            case measure => simp [intOf]; omega
    · obtain rfl : n = i := by omega
      have PE := Lib.hid (show (List.range n).filter (pkl ls) = peaksV ls by unfold peaksV; rw [LN.out])
      go_wp2_with fail
      go_ret
      refine ⟨⟨_, _, _, rfl, ?_, fun a ha => ?_⟩, BB.out⟩
      · rw [← PE.out]; exact OI.out.ints
      · subst ha
        rcases OI.out.row.2 with ⟨e, _⟩ | ⟨g, cap', cur, e, hb, _⟩
        · cases e
        · injection e with e1
          injection e1 with e1
          subst e1
          exact hb
end Go.Proofs.Ytihkncnhkljgpaa
namespace Go.Proofs.Ytihkncnhkljgpaa
open Go.RowKit

theorem cnts_some (ls : List (List Int)) (k : List Int) : cnts ls k ≠ none ↔ k ∈ ls := by
  unfold cnts
  by_cases h : k ∈ ls <;> simp [h]
theorem high_pos {ls s h : List (List Int)} (hs : ∀ k, k ∈ s ↔ cnts ls k ≠ none) (hh : ∀ k, k ∈ h ↔ k ∈ s ∧ mxl s k = true) {i : Nat} (hi : i < ls.length) : pkl ls i = decide (0 < (cnts h (ls.getD i vz)).getD 0) := by
  have hm : ls.getD i vz ∈ ls := by rw [List.getD_eq_getElem?_getD, List.getElem?_eq_getElem hi]; exact List.getElem_mem hi
  have hm2 : ls.getD i vz ∈ s := (hs _).2 ((cnts_some ls _).2 hm)
  have e : mxl s (ls.getD i vz) = mxl ls (ls.getD i vz) := mxl_same (fun k => (hs k).trans (cnts_some ls k)) _
  rw [cnts_getD]
  unfold pkl
  rw [← e, Bool.eq_iff_iff, decide_eq_true_eq]
  have h2 : (0 : Int) < (h.count (ls.getD i vz) : Nat) ↔ ls.getD i vz ∈ h := by
    rw [← List.count_pos_iff]; omega
  rw [h2, hh]
  exact ⟨fun g => ⟨hm2, g⟩, fun g => g.2⟩
set_option maxRecDepth 100000 in
set_option maxHeartbeats 4000000 in
theorem peaksV_is (A : Option Addr) (n cap : Nat) (ls : List (List Int)) (w : World) (h : RowG E24 w A n cap ls) (hn : n ≤ 4000) : Calls Try.prog 22 #[.slice A n cap] w (GivesI w (peaksV ls)) := by
  have H := Lib.hid h
  have LN := Lib.hid h.len
  have hz := zero24
  clear h
  go_enter Try.func22, Try.ntmps22
  go_wp2_with fail
  refine (countV_is A n cap ls _ H.out (by omega)).mono ?_
  rintro e w1 ⟨⟨b1, rfl, lb1, m1, _⟩, q1⟩
  have M1 := Lib.hid m1
  have B1 := Lib.hid q1
  clear m1 q1 lb1
  go_wp2_with fail
  refine (keysV_is b1 _).mono ?_
  rintro e w2 ⟨rfl, k2, q2⟩
  have K2 := Lib.hid k2
  have M2 := Lib.hid (M1.out.below q2)
  have B2 := Lib.hid (step_ B1.out q2)
  clear k2 q2
  go_wp2_with fail
  refine (collectV_is 46 #[.pointer (some ⟨w1.heap.size, 0, none⟩)] _ (NxK (cnts ls) ls.length) (FinK (cnts ls) ls.length) ls.length _ (fun _ _ => rfl) (keys_seq w1.heap.size b1 ls.length (cnts ls) w2 M2.out) (fun V hb => ⟨K2.out.below hb, hb.block b1 M2.out.lt⟩) (by rw [LN.out]; exact hn) (fun pre x h => ⟨h.1, h.2.2⟩)).mono ?_
  rintro e w3 ⟨⟨v3, s, rfl, hf, o3⟩, q3⟩
  have FS := Lib.hid hf
  have O3 := Lib.hid o3
  have B3 := Lib.hid (step_ B2.out q3)
  have S23 := Lib.hid q3.size
  clear hf o3 q3 M1 M2 K2
  go_wp2_with fail
  refine (tops_is v3 w2.heap.size s _ O3.out FS.out.1 (by have h1 := FS.out.2.2; have h2 := LN.out; omega) S23.out).mono ?_
  rintro e w4 ⟨⟨v4, hh, rfl, hm, hl, o4⟩, q4⟩
  obtain ⟨A4, n4, c4, rfl, r4⟩ := o4.rowG L24
  have HM := Lib.hid hm
  have R4 := Lib.hid r4
  have L4 := Lib.hid (show n4 ≤ 5000 by have h1 := FS.out.2.2; have h2 := LN.out; have h3 := r4.len; omega)
  have B4 := Lib.hid (B3.out.trans (q4.mono B2.out.size))
  clear hm hl o4 r4 q4 O3
  go_wp2_with fail
  refine (countV_is A4 n4 c4 hh _ R4.out L4.out).mono ?_
  rintro e w5 ⟨⟨b5, rfl, lb5, m5, _⟩, q5⟩
  have M5 := Lib.hid m5
  have B5 := Lib.hid (step_ B4.out q5)
  clear m5 q5 lb5 R4
  go_wp2_with fail
  go_loopw [4, 15] (fun v ii wr => ∃ i : Nat, i ≤ n ∧ ii = .int .i64 i ∧ OwnI wr w5.heap.size v ((List.range i).filter (pkl ls)) ∧ Below w5.heap.size w5 wr) (fun _ ii _ => n - (intOf ii).toNat)
  case atStart => exact ⟨0, Nat.zero_le _, rfl, ownI_nil _ _, Below.refl _ _⟩
  case round =>
    obtain ⟨i, hi, rfl, ho, hb⟩ := hrel
    obtain ⟨D3, c3, e3⟩ := ho.shape
    subst e3
    have OI := Lib.hid ho
    have BB := Lib.hid hb
    have M6 := Lib.hid (M5.out.below hb)
    clear ho hb
    by_cases hlt : i < n
    · have LI := Lib.hid (show ((List.range i).filter (pkl ls)).length ≤ 5000 from Nat.le_trans (List.length_filter_le ..) (by rw [List.length_range]; omega))
      have FR := Lib.hid (filter_rangeV (pkl ls) i)
      have HP := Lib.hid (high_pos FS.out.2.1 HM.out (i := i) (by rw [LN.out]; exact hlt))
      obtain ⟨G, p, hE⟩ := (H.out.below (B5.out.trans (BB.out.mono B5.out.size))).elem vz i hlt
      have E := Lib.hid hE
      obtain ⟨x, hx⟩ : ∃ x, ls.getD i vz = x := ⟨_, rfl⟩
      rw [hx] at E HP
      clear hE hx
      have XO := Lib.hid (show VOk x from E.out.ok)
      have Z0 := Lib.hid (blk_alloc wr 24 (vc vz))
      obtain ⟨z, hz2⟩ : ∃ z, (cnts hh x).getD 0 = z := ⟨_, rfl⟩
      have HZ := Lib.hid hz2
      rw [hz2] at HP
      clear hz2
      by_cases hp : 0 < z
      · have FR2 := Lib.hid (show (List.range (i + 1)).filter (pkl ls) = (List.range i).filter (pkl ls) ++ [i] by rw [FR.out, HP.out, decide_eq_true hp]; rfl)
        go_wp2_with (first
          | go_skip
          | refine wpList_indexG L24 rfl _ _ rfl A n cap G p i x _ rfl rfl (by first | rfl | omega) E.out ?_
          | refine wpList_load_v t24 rfl _ rfl G p x rfl E.out.rg XO.out.len ?_
          | (refine wpList_store_v t24 rfl _ _ rfl wr.heap.size vz x rfl rfl Z0.out rfl XO.out.len ?_; intro w6 N6 O6; have Q6 := Lib.hid (box_below O6.out))
          | refine wpList_load_v t24 rfl _ rfl wr.heap.size 0 x rfl N6.out.range XO.out.len ?_
          | (refine wpList_lookN rfl _ _ rfl b5 hh.length (cnts hh) x rfl rfl (M6.out.below Q6.out) XO.out ?_; rw [HZ.out])
          | (refine wpList_ints1 rfl _ rfl (i : Int) rfl ?_; intro g7 w7 e7 N7 B7)
          | (refine wpList_app_i rfl _ _ rfl w5.heap.size _ ((List.range i).filter (pkl ls)) i g7 rfl rfl ((OI.out.below Q6.out).below B7.out) N7.out LI.out (Nat.le_trans BB.out.size (step_ Q6.out B7.out).size) ?_; intro D8 m8 c8 w8 e8 O8 B8 G8))
        go_roundw
        case rel => exact ⟨i + 1, by omega, by go_num, by rw [FR2.out]; exact O8.out, (step_ BB.out (step_ Q6.out B7.out)).trans B8.out⟩
        case measure => simp [intOf]; omega
      · have FR2 := Lib.hid (show (List.range (i + 1)).filter (pkl ls) = (List.range i).filter (pkl ls) by rw [FR.out, HP.out, decide_eq_false hp]; simp)
        go_wp2_with (first
          | go_skip
          | refine wpList_indexG L24 rfl _ _ rfl A n cap G p i x _ rfl rfl (by first | rfl | omega) E.out ?_
          | refine wpList_load_v t24 rfl _ rfl G p x rfl E.out.rg XO.out.len ?_
          | (refine wpList_store_v t24 rfl _ _ rfl wr.heap.size vz x rfl rfl Z0.out rfl XO.out.len ?_; intro w6 N6 O6; have Q6 := Lib.hid (box_below O6.out))
          | refine wpList_load_v t24 rfl _ rfl wr.heap.size 0 x rfl N6.out.range XO.out.len ?_
          | (refine wpList_lookN rfl _ _ rfl b5 hh.length (cnts hh) x rfl rfl (M6.out.below Q6.out) XO.out ?_; rw [HZ.out]))
        go_roundw
        case rel => exact ⟨i + 1, by omega, by go_num, by rw [FR2.out]; exact OI.out.below Q6.out, step_ BB.out Q6.out⟩
        case measure => simp [intOf]; omega
    · obtain rfl : n = i := by omega
      have PE := Lib.hid (show (List.range n).filter (pkl ls) = peaksV ls by unfold peaksV; rw [LN.out])
      go_wp2_with fail
      go_ret
      refine ⟨⟨_, _, _, rfl, ?_, fun a ha => ?_⟩, B5.out.trans (BB.out.mono B5.out.size)⟩
      · rw [← PE.out]; exact OI.out.ints
      · subst ha
        rcases OI.out.row.2 with ⟨e, _⟩ | ⟨g, cap', cur, e, hb, _⟩
        · cases e
        · injection e with e1
          injection e1 with e1
          subst e1
          exact Nat.le_trans B5.out.size hb
end Go.Proofs.Ytihkncnhkljgpaa
