/- The walk of VecOf. -/
import Derived.Test.YtihkncnhkljgpaaOfs
namespace Go.Proofs.Ytihkncnhkljgpaa
open Go.RowKit

set_option maxRecDepth 100000 in
set_option maxHeartbeats 4000000 in
theorem vecOf_is (A : Option Addr) (n cap : Nat) (a : List Am) (l : List Int) (z : Int) (w : World) (h : RowV w A n cap a) (hl : VOk l) (h0 : 0 ≤ z) (h1 : z < 256) : Calls Try.prog 4 #[.slice A n cap, .agg (vc l).toArray, .int .u8 z] w fun e w' => e = .returned (.bool true) ∧ Below w.heap.size w w' := by
  obtain ⟨k, rfl⟩ : ∃ k : Nat, z = k := ⟨z.toNat, by omega⟩
  clear h0 h1
  have B0 := Lib.hid (new_below w (.cells (vc l).toArray 23))
  have Q0 := Lib.hid (blk_alloc w 23 (vc l))
  have R0 := Lib.hid (h.below B0.out)
  have HL := Lib.hid hl
  clear h hl
  by_cases hn : 60 < n
  · have hn' : (60 : Int) < (n : Int) := by omega
    go_enter Try.func4, Try.ntmps4
    go_wp2_with fail
    refine (alive_is _).mono ?_
    rintro e w1 ⟨rfl, b1⟩
    have B1 := Lib.hid (step_ B0.out b1)
    clear b1
    go_wp2_with fail
    go_ret
    exact ⟨rfl, B1.out⟩
  · have hn' : ¬ (60 : Int) < (n : Int) := by omega
    have hz := zero24
    obtain ⟨e0, he⟩ : ∃ e0, bumpE l k = e0 := ⟨_, rfl⟩
    obtain ⟨m, hm⟩ : ∃ m, bumpV l k = m := ⟨_, rfl⟩
    have HE := Lib.hid he
    have HM := Lib.hid hm
    have ML := Lib.hid (show m.length = 16 by rw [← hm]; exact bumpV_len HL.out.len k)
    clear he hm
    go_enter Try.func4, Try.ntmps4
    go_wp2_with (refine wpList_load_v t23 rfl _ rfl w.heap.size 0 l rfl Q0.out.range HL.out.len ?_)
    refine (bump_is l m k e0 _ HL.out HE HM).mono ?_
    rintro e w1 ⟨rfl, b1⟩
    have Q1 := Lib.hid ((Q0.out.below b1).alloc (.cells (vc vz).toArray 24))
    have R1 := Lib.hid (R0.out.below (step_ b1 (new_below w1 (.cells (vc vz).toArray 24))))
    have B1 := Lib.hid (step_ (step_ B0.out b1) (new_below w1 (.cells (vc vz).toArray 24)))
    have Z1 := Lib.hid (blk_alloc w1 24 (vc vz))
    have LT := Lib.hid (show w.heap.size < w1.heap.size from (Q0.out.below b1).lt)
    clear b1 Q0 R0 B0
    go_wp2_with (first
      | (refine wpList_store_v t24 rfl _ _ rfl w1.heap.size vz m rfl rfl Z1.out rfl ML.out ?_; intro w2 N2 O2))
    have Q2 := Lib.hid (Q1.out.only O2.out (by have := LT.out; omega))
    have BX := Lib.hid (box_below O2.out)
    have R2 := Lib.hid (ofs_keep R1.out O2.out Z1.out)
    have B2 := Lib.hid (B1.out.trans (O2.out.below (Nat.le_of_lt LT.out) B1.out.size))
    have N2' := Lib.hid N2.out
    clear N2 O2 Q1 R1 B1 Z1 hz
    obtain ⟨v, hv⟩ : ∃ v, vof (norm a) = v := ⟨_, rfl⟩
    have VL := Lib.hid (show v.length = 16 by rw [← hv]; exact vof_len _)
    go_wp2_with fail
    refine (vecOfs_is A n cap a _ R2.out (by omega)).mono ?_
    rintro e w3 ⟨rfl, b3⟩
    rw [hv]
    have Q3 := Lib.hid (Q2.out.below b3)
    have N3 := Lib.hid (N2'.out.below b3)
    have R3 := Lib.hid (R2.out.below b3)
    have B3 := Lib.hid (step_ B2.out b3)
    clear b3 Q2 N2' R2 B2
    go_wp2_with fail
    refine (refOfs_is A n cap a _ R3.out (by omega)).mono ?_
    rintro e w4 ⟨rfl, b4⟩
    rw [hv]
    have Q4 := Lib.hid (Q3.out.below b4)
    have N4 := Lib.hid (N3.out.below b4)
    have B4 := Lib.hid (step_ B3.out b4)
    clear b4 Q3 N3 R3 B3 hv
    have NE := Lib.hid (show (!(v == v)) = false by simp)
    by_cases hk : 16 ≤ k
    · have hk' : (16 : Int) ≤ (k : Int) := by omega
      obtain rfl : (1 : Int) = e0 := by rw [← HE.out]; unfold bumpE; rw [if_pos hk]
      obtain rfl : vz = m := by rw [← HM.out]; unfold bumpV; rw [if_pos hk]
      go_wp2_with (first
        | refine wpList_val rfl (.bool false) ((exec_neq_v t23 _ _ _ rfl v v rfl rfl VL.out VL.out).trans (by rw [NE.out])) ?_
        | (refine wanted_on rfl ?_; refine wpList_load_v t24 rfl _ rfl w1.heap.size 0 vz rfl N4.out.range rfl ?_)
        | (refine wanted_on rfl ?_; refine wpList_build rfl 24 _ rfl [] rfl _ built24_0 ?_)
        | (refine wanted_on rfl ?_; refine wpList_val rfl (.bool true) (exec_eq_vr t24 _ _ _ rfl vz vz rfl rfl rfl rfl rfl) ?_))
      refine (alive_is _).mono ?_
      rintro e w5 ⟨rfl, b5⟩
      have B5 := Lib.hid (step_ B4.out b5)
      clear b5
      go_wp2_with fail
      go_ret
      exact ⟨rfl, B5.out⟩
    · have hk' : ¬ (16 : Int) ≤ (k : Int) := by omega
      have hk2 : (k : Int) < 16 := by omega
      obtain ⟨x, hx⟩ : ∃ x, l.getD k 0 = x := ⟨_, rfl⟩
      have hx' : l[k]? = some x := by rw [← hx, getD_at (by rw [HL.out.len]; omega)]; exact List.getElem?_eq_getElem _
      have ca := Q4.out.cell (vc_at hx')
      have fr := Q4.out.frozen k
      have hrg := Lib.hid (HL.out.rg x (List.mem_of_getElem? hx'))
      by_cases hs : x = 4294967295
      · have hs' : (x == 4294967295) = true := by simp [hs]
        obtain rfl : (8 : Int) = e0 := by rw [← HE.out]; unfold bumpE; rw [if_neg hk, hx, if_pos hs]
        obtain rfl : vz = m := by rw [← HM.out]; unfold bumpV; rw [if_neg hk, hx, if_pos hs]
        clear hs hx hx' hk
        go_wp2_with (first
          | refine wpList_val rfl (.bool false) ((exec_neq_v t23 _ _ _ rfl v v rfl rfl VL.out VL.out).trans (by rw [NE.out])) ?_
          | (refine wanted_on rfl ?_; refine wpList_load_v t24 rfl _ rfl w1.heap.size 0 vz rfl N4.out.range rfl ?_)
          | (refine wanted_on rfl ?_; refine wpList_build rfl 24 _ rfl [] rfl _ built24_0 ?_)
          | (refine wanted_on rfl ?_; refine wpList_val rfl (.bool true) (exec_eq_vr t24 _ _ _ rfl vz vz rfl rfl rfl rfl rfl) ?_))
        refine (alive_is _).mono ?_
        rintro e w5 ⟨rfl, b5⟩
        have B5 := Lib.hid (step_ B4.out b5)
        clear b5
        go_wp2_with fail
        go_ret
        exact ⟨rfl, B5.out⟩
      · have hs' : (x == 4294967295) = false := by simp [hs]
        have hw : IntKind.u32.wrap (x + 1) = x + 1 := wrap_u32 (by have := hrg.out; omega) (by have := hrg.out; omega)
        obtain rfl : (0 : Int) = e0 := by rw [← HE.out]; unfold bumpE; rw [if_neg hk, hx, if_neg hs]
        obtain ⟨m', hm'⟩ : ∃ m', l.set k (x + 1) = m' := ⟨_, rfl⟩
        obtain rfl : m' = m := by rw [← HM.out, ← hm']; unfold bumpV; rw [if_neg hk, hx, if_neg hs]
        have S1 := Lib.hid (show Blk (w4.setCell ⟨w.heap.size, k, none⟩ (.int .u32 (x + 1))) w.heap.size 23 (vc m') by rw [← hm']; exact bumpL Q4.out)
        have S2 := Lib.hid (N4.out.other k (.int .u32 (x + 1)) (show w1.heap.size ≠ w.heap.size by have := LT.out; omega))
        have S3 := Lib.hid (B4.out.setCell (p := ⟨w.heap.size, k, none⟩) (Nat.le_refl _) (.int .u32 (x + 1)))
        clear hs hx hx' hm' hk HM
        go_wp2_with (first
          | refine wpList_val rfl (.bool false) ((exec_neq_v t23 _ _ _ rfl v v rfl rfl VL.out VL.out).trans (by rw [NE.out])) ?_
          | (refine wanted_on rfl ?_; refine wpList_load_v t24 rfl _ rfl w1.heap.size 0 m' rfl S2.out.range ML.out ?_)
          | (refine wanted_on rfl ?_; refine wpList_load_v t23 rfl _ rfl w.heap.size 0 m' rfl S1.out.range ML.out ?_)
          | (refine wanted_on rfl ?_; refine wpList_val rfl (.bool true) (exec_eq_vr t23 _ _ _ rfl m' m' rfl rfl ML.out ML.out (beq_self_eq_true _)) ?_))
        refine (alive_is _).mono ?_
        rintro e w5 ⟨rfl, b5⟩
        have B5 := Lib.hid (step_ S3.out b5)
        clear b5
        go_wp2_with fail
        go_ret
        exact ⟨rfl, B5.out⟩
end Go.Proofs.Ytihkncnhkljgpaa
