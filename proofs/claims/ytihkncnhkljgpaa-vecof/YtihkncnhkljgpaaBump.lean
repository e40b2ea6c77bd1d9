/- The contract of Bump. -/
import Derived.Test.YtihkncnhkljgpaaLives
import Derived.Test.YtihkncnhkljgpaaMathO
namespace Go.Proofs.Ytihkncnhkljgpaa
open Go.RowKit

/-- What Bump answers. -/
def bumpE (l : List Int) (k : Nat) : Int := if 16 ≤ k then 1 else if l.getD k 0 = 4294967295 then 8 else 0
def bumpV (l : List Int) (k : Nat) : List Int := if 16 ≤ k then vz else if l.getD k 0 = 4294967295 then vz else l.set k (l.getD k 0 + 1)
theorem wrap_u32 {x : Int} (h0 : 0 ≤ x) (h1 : x < 4294967296) : IntKind.u32.wrap x = x := by
  show (x % 4294967296 : Int) = x
  omega
theorem bumpV_len {l : List Int} (h : l.length = 16) (k : Nat) : (bumpV l k).length = 16 := by
  unfold bumpV; split
  · rfl
  · split
    · rfl
    · rw [List.length_set]; exact h
set_option maxRecDepth 100000 in
theorem bump_is (l m : List Int) (k : Nat) (e0 : Int) (w : World) (h : VOk l) (he : Hid (bumpE l k = e0)) (hm : Hid (bumpV l k = m)) : Calls Try.prog 16 #[.agg (vc l).toArray, .int .u8 (k : Int)] w fun e w' => e = .returned (.tuple #[.agg (vc m).toArray, .int .i64 e0]) ∧ Below w.heap.size w w' := by
  have hz := zero24
  have HL := Lib.hid h
  have Q1 := Lib.hid ((blk_alloc w 24 (vc l)).alloc (.cells (vc vz).toArray 24))
  have Q2 := Lib.hid (blk2 w (.cells (vc l).toArray 24) 24 (vc vz))
  have B0 := Lib.hid (step_ (new_below w (.cells (vc l).toArray 24)) (new_below _ (.cells (vc vz).toArray 24)))
  clear h
  by_cases hk : 16 ≤ k
  · have hk' : (16 : Int) ≤ (k : Int) := by omega
    obtain rfl : (1 : Int) = e0 := by rw [← he.out]; unfold bumpE; rw [if_pos hk]
    obtain rfl : vz = m := by rw [← hm.out]; unfold bumpV; rw [if_pos hk]
    go_enter Try.func16, Try.ntmps16
    go_wp2_with (first
      | refine wpList_build rfl 24 _ rfl [] rfl _ built24_0 ?_
      | (refine wpList_store_v t24 rfl _ _ rfl (w.heap.size + 1) vz vz rfl rfl Q2.out rfl rfl ?_; intro w1 N1 O1))
    refine bodyPost_ret (results_vE t24 rfl _ _ (w.heap.size + 1) vz rfl N1.out rfl) rfl ?_
    exact ⟨rfl, B0.out.trans (O1.out.below (by omega) B0.out.size)⟩
  · have hk' : ¬ (16 : Int) ≤ (k : Int) := by omega
    have hk2 : k < 16 := by omega
    obtain ⟨x, hx⟩ : ∃ x, l.getD k 0 = x := ⟨_, rfl⟩
    have hx' : l[k]? = some x := by rw [← hx, getD_at (by rw [HL.out.len]; exact hk2)]; exact List.getElem?_eq_getElem _
    have ca := Q1.out.cell (vc_at hx')
    have fr := Q1.out.frozen k
    have hrg := Lib.hid (HL.out.rg x (List.mem_of_getElem? hx'))
    by_cases hs : x = 4294967295
    · have hs' : (x == 4294967295) = true := by simp [hs]
      obtain rfl : (8 : Int) = e0 := by rw [← he.out]; unfold bumpE; rw [if_neg hk, hx, if_pos hs]
      obtain rfl : vz = m := by rw [← hm.out]; unfold bumpV; rw [if_neg hk, hx, if_pos hs]
      clear hs hx hx' he hm hk
      go_enter Try.func16, Try.ntmps16
      go_wp2_with (first
        | refine wpList_build rfl 24 _ rfl [] rfl _ built24_0 ?_
        | (refine wpList_store_v t24 rfl _ _ rfl (w.heap.size + 1) vz vz rfl rfl Q2.out rfl rfl ?_; intro w1 N1 O1))
      refine bodyPost_ret (results_vE t24 rfl _ _ (w.heap.size + 1) vz rfl N1.out rfl) rfl ?_
      exact ⟨rfl, B0.out.trans (O1.out.below (by omega) B0.out.size)⟩
    · have hs' : (x == 4294967295) = false := by simp [hs]
      have hw : IntKind.u32.wrap (x + 1) = x + 1 := wrap_u32 (by have := hrg.out; omega) (by have := hrg.out; omega)
      obtain rfl : (0 : Int) = e0 := by rw [← he.out]; unfold bumpE; rw [if_neg hk, hx, if_neg hs]
      have HM := Lib.hid (show l.set k (x + 1) = m by rw [← hm.out]; unfold bumpV; rw [if_neg hk, hx, if_neg hs])
      have S1 := Lib.hid (show Blk ((w.alloc (.cells ((vc l).set k (.int .u32 (x + 1))).toArray 24)).alloc (.cells (vc vz).toArray 24)) w.heap.size 24 (vc (l.set k (x + 1))) by rw [vc_set]; exact (blk_alloc w 24 _).alloc _)
      have S2 := Lib.hid (show Blk ((w.alloc (.cells ((vc l).set k (.int .u32 (x + 1))).toArray 24)).alloc (.cells (vc vz).toArray 24)) (w.heap.size + 1) 24 (vc vz) from blk2 w (.cells ((vc l).set k (.int .u32 (x + 1))).toArray 24) 24 (vc vz))
      have S3 := Lib.hid (step_ (new_below w (.cells ((vc l).set k (.int .u32 (x + 1))).toArray 24)) (new_below _ (.cells (vc vz).toArray 24)))
      have SL := Lib.hid (show (l.set k (x + 1)).length = 16 by rw [List.length_set]; exact HL.out.len)
      clear hs hx hx' he hm hk
      go_enter Try.func16, Try.ntmps16
      go_wp2_with (first
        | refine wpList_load_v t24 rfl _ rfl w.heap.size 0 (l.set k (x + 1)) rfl S1.out.range SL.out ?_
        | (refine wpList_store_v t24 rfl _ _ rfl (w.heap.size + 1) vz (l.set k (x + 1)) rfl rfl S2.out rfl SL.out ?_; intro w1 N1 O1))
      refine bodyPost_ret (results_vE t24 rfl _ _ (w.heap.size + 1) (l.set k (x + 1)) rfl N1.out SL.out) rfl ?_
      exact ⟨by rw [HM.out]; rfl, S3.out.trans (O1.out.below (by omega) S3.out.size)⟩
end Go.Proofs.Ytihkncnhkljgpaa
