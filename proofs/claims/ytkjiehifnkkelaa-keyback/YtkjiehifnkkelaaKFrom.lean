/- The contracts of cut and From of package key, and of From of the reference. -/
import Derived.Test.YtkjiehifnkkelaaKWords
namespace Go.Proofs.Ytkjiehifnkkelaa
open Go.RowKit

theorem nameFrom_any (y : Int) (m : List Int) (w : World) (hm : Hid (nameOf y = m)) : Calls Try.prog 47 #[.int .u64 y] w fun e w' => e = .returned (.tuple #[.agg (nm m), .int .i64 (okE (M.rightB (M.digits 8 y)))]) ∧ Below w.heap.size w w' := by
  have h := hm.out
  subst h
  exact nameFrom_is y _ _ w (Lib.hid rfl) (Lib.hid rfl)
theorem nameRefFrom_any (y : Int) (m : List Int) (w : World) (h0 : 0 ≤ y) (h1 : Hid (y < 18446744073709551616)) (hm : Hid (nameOf y = m)) : Calls Try.prog 29 #[.int .u64 y] w fun e w' => e = .returned (.tuple #[.agg (nm m), .int .i64 (okE (M.rightB (M.digits 8 y)))]) ∧ Below w.heap.size w w' := by
  have h := hm.out
  subst h
  exact nameRefFrom_is y _ _ w h0 h1 (Lib.hid rfl) (Lib.hid rfl)
theorem At.put {w w' : World} {g x : Nat} {l : List Int} (h : At w g l) (ho : Only x w w') (hn : g ≠ x) : At w' g l := h.only ho hn
set_option maxRecDepth 100000 in
theorem kcut_is (x y z : Int) (k : Ky) (w : World) (z0 : 0 ≤ z) (z1 : Hid (z < 18446744073709551616)) (hk : Hid (kcut x y z = k)) :
    Calls Try.prog 28 #[.agg (wd x y z).toArray] w fun e w' => e = .returned (.agg k.cells.toArray) ∧ Below w.heap.size w w' := by
  have hz := zero23
  have hz2 := zero27
  obtain ⟨m, hm⟩ : ∃ m, nameOf y = m := ⟨_, rfl⟩
  have HM := Lib.hid hm
  have ML := Lib.hid (show m.length = 8 from hm ▸ nameOf_len y)
  have HK := Lib.hid (show (⟨x / 65536 % 256, x % 65536, m, z / 4294967296 % 256, z % 4294967296⟩ : Ky) = k by rw [← hm]; exact hk.out)
  have Q0 := Lib.hid ((blk_alloc w 29 (wd x y z)).alloc (.cells kzero.cells.toArray 27))
  have K0 := Lib.hid (blk2 w (.cells (wd x y z).toArray 29) 27 kzero.cells)
  have B0 := Lib.hid (step_ (new_below w (.cells (wd x y z).toArray 29)) (new_below _ (.cells kzero.cells.toArray 27)))
  have c1 := Q0.out.cell (wd1 x y z)
  clear hm hk
  go_enter Try.func28, Try.ntmps28
  go_wp2_with fail
  refine (nameFrom_any y m _ HM).mono ?_
  rintro e w1 ⟨rfl, b1⟩
  have N1 := Lib.hid (at_alloc w1 M.zero8)
  have Q1 := Lib.hid ((Q0.out.below b1).alloc (.cells (nm M.zero8) 24))
  have K1 := Lib.hid ((K0.out.below b1).alloc (.cells (nm M.zero8) 24))
  have G1 := Lib.hid (K0.out.below b1).lt
  have B1 := Lib.hid (step_ (step_ B0.out b1) (new_below w1 (.cells (nm M.zero8) 24)))
  clear b1 c1
  go_wp2_with (first
    | (refine wpList_put_name rfl _ _ rfl w1.heap.size M.zero8 m rfl rfl N1.out rfl ML.out ?_; intro w2 N2 O2; have Q2 := Lib.hid (Q1.out.only O2.out (by have := G1.out; omega)); have K2 := Lib.hid (K1.out.only O2.out (by have := G1.out; omega)); have B2 := Lib.hid (B1.out.trans (O2.out.below (by have := G1.out; omega) B1.out.size)); have d0 := Q2.out.cell (wd0 x y z); have d2 := Q2.out.cell (wd2 x y z)))
  refine (undot_is z _ _ _ z0 z1 (Lib.hid rfl) (Lib.hid rfl)).mono ?_
  rintro e w3 ⟨rfl, rfl⟩
  go_wp2_with (first
    | refine wpList_load_name rfl _ rfl w1.heap.size m rfl N2.out ML.out ?_
    | (refine wpList_build rfl 27 _ rfl [(0, .int .u8 (x / 65536 % 256)), (1, .int .u16 (x % 65536)), (2, .agg (nm m)), (3, .int .u8 (z / 4294967296 % 256)), (4, .int .u32 (z % 4294967296))] rfl _ (built27_5 ⟨x / 65536 % 256, x % 65536, m, z / 4294967296 % 256, z % 4294967296⟩ ML.out) ?_)
    | (refine wpList_store_ky rfl _ _ rfl (w.heap.size + 1) kzero ⟨x / 65536 % 256, x % 65536, m, z / 4294967296 % 256, z % 4294967296⟩ rfl rfl K2.out rfl ML.out ?_; intro w4 K4 O4))
  refine bodyPost_ret (results_ky rfl _ _ (w.heap.size + 1) _ rfl K4.out ML.out) rfl ?_
  exact ⟨by rw [HK.out], B2.out.trans (O4.out.below (by omega) B2.out.size)⟩
def okK (b : Bool) (k : Ky) : Ky := if b = true then k else kzero
theorem okK_len {b : Bool} {k : Ky} (h : k.m.length = 8) : (okK b k).m.length = 8 := by
  unfold okK; split
  · exact h
  · rfl
/-- What From hands back. -/
def Froms (w : World) (b : Bool) (k : Ky) (e : Ending) (w' : World) : Prop := e = .returned (.tuple #[.agg (okK b k).cells.toArray, .int .i64 (okE b)]) ∧ Below w.heap.size w w'
set_option maxRecDepth 100000 in
theorem from_no (x y z : Int) (k : Ky) (w : World) (z0 : 0 ≤ z) (z1 : Hid (z < 18446744073709551616)) (hk : Hid (kcut x y z = k)) (ht : Hid (same3 k.w0 k.w1 k.w2 x y z = false))  :
    Calls Try.prog 7 #[.agg (wd x y z).toArray] w (Froms w false k) := by
  have hz2 := zero27
  have KO := Lib.hid (show k.Ok from hk.out ▸ kcut_ok x y z)
  have ML := Lib.hid KO.out.ml
  have Q0 := Lib.hid ((blk_alloc w 29 (wd x y z)).alloc (.cells kzero.cells.toArray 27))
  have K0 := Lib.hid (blk2 w (.cells (wd x y z).toArray 29) 27 kzero.cells)
  have B0 := Lib.hid (step_ (new_below w (.cells (wd x y z).toArray 29)) (new_below _ (.cells kzero.cells.toArray 27)))
  go_enter Try.func7, Try.ntmps7
  go_wp2_with (refine wpList_load_wd rfl _ rfl w.heap.size 0 x y z rfl Q0.out.range ?_)
  refine (kcut_is x y z k _ z0 z1 hk).mono ?_
  rintro e w1 ⟨rfl, b1⟩
  have N1 := Lib.hid (blk_alloc w1 27 kzero.cells)
  have Q1 := Lib.hid ((Q0.out.below b1).alloc (.cells kzero.cells.toArray 27))
  have K1 := Lib.hid ((K0.out.below b1).alloc (.cells kzero.cells.toArray 27))
  have G1 := Lib.hid (K0.out.below b1).lt
  have B1 := Lib.hid (step_ (step_ B0.out b1) (new_below w1 (.cells kzero.cells.toArray 27)))
  clear b1
  go_wp2_with (first
    | (refine wpList_store_ky rfl _ _ rfl w1.heap.size kzero k rfl rfl N1.out rfl ML.out ?_; intro w2 N2 O2; have Q2 := Lib.hid (Q1.out.only O2.out (by have := G1.out; omega)); have K2 := Lib.hid (K1.out.only O2.out (by have := G1.out; omega)); have B2 := Lib.hid (B1.out.trans (O2.out.below (by have := G1.out; omega) B1.out.size))))
  try simp only [Act.put]
  refine region_later (by kernel_rfl) (by kernel_rfl) ?_
  (go_big_quiet_want; refine quiet_load_ky w1.heap.size k _ rfl rfl N2.out ML.out ?_; go_simp; go_big_quiet_on)
  go_big_quiet_step (exact later_call (words_is k _ KO.out))
  (go_big_quiet_want; refine quiet_load_wd w.heap.size x y z _ rfl rfl Q2.out ?_; go_simp; go_big_quiet_on)
  (go_big_quiet_want; refine quiet_val (.bool (!false)) (fun W => ht.out ▸ exec_neq_wd _ _ _ rfl k.w0 k.w1 k.w2 x y z rfl rfl) ?_; go_simp; go_big_quiet_on)
  go_big_quiet_step (fail)
  repeat go_big_quiet_step (fail)
  refine wpQuiet_nil ?_
  intro w3 b3
  have N3 := Lib.hid (N2.out.below b3)
  have K3 := Lib.hid (K2.out.below b3)
  have B3 := Lib.hid (step_ B2.out b3)
  clear b3
  go_wp2_with (first
    | refine wpList_build rfl 27 _ rfl [] rfl _ built27_0 ?_
    | (refine wpList_store_ky rfl _ _ rfl (w.heap.size + 1) kzero kzero rfl rfl K3.out rfl rfl ?_; intro w4 K4 O4))
  refine bodyPost_ret (results_kyE rfl _ _ (w.heap.size + 1) kzero rfl K4.out rfl) rfl ?_
  exact ⟨rfl, B3.out.trans (O4.out.below (by omega) B3.out.size)⟩
set_option maxRecDepth 100000 in
theorem from_bad (x y z : Int) (k : Ky) (w : World) (z0 : 0 ≤ z) (z1 : Hid (z < 18446744073709551616)) (hk : Hid (kcut x y z = k)) (ht : Hid (same3 k.w0 k.w1 k.w2 x y z = true)) (hr : Hid (k.right = false)) :
    Calls Try.prog 7 #[.agg (wd x y z).toArray] w (Froms w false k) := by
  have hz2 := zero27
  have KO := Lib.hid (show k.Ok from hk.out ▸ kcut_ok x y z)
  have ML := Lib.hid KO.out.ml
  have Q0 := Lib.hid ((blk_alloc w 29 (wd x y z)).alloc (.cells kzero.cells.toArray 27))
  have K0 := Lib.hid (blk2 w (.cells (wd x y z).toArray 29) 27 kzero.cells)
  have B0 := Lib.hid (step_ (new_below w (.cells (wd x y z).toArray 29)) (new_below _ (.cells kzero.cells.toArray 27)))
  go_enter Try.func7, Try.ntmps7
  go_wp2_with (refine wpList_load_wd rfl _ rfl w.heap.size 0 x y z rfl Q0.out.range ?_)
  refine (kcut_is x y z k _ z0 z1 hk).mono ?_
  rintro e w1 ⟨rfl, b1⟩
  have N1 := Lib.hid (blk_alloc w1 27 kzero.cells)
  have Q1 := Lib.hid ((Q0.out.below b1).alloc (.cells kzero.cells.toArray 27))
  have K1 := Lib.hid ((K0.out.below b1).alloc (.cells kzero.cells.toArray 27))
  have G1 := Lib.hid (K0.out.below b1).lt
  have B1 := Lib.hid (step_ (step_ B0.out b1) (new_below w1 (.cells kzero.cells.toArray 27)))
  clear b1
  go_wp2_with (first
    | (refine wpList_store_ky rfl _ _ rfl w1.heap.size kzero k rfl rfl N1.out rfl ML.out ?_; intro w2 N2 O2; have Q2 := Lib.hid (Q1.out.only O2.out (by have := G1.out; omega)); have K2 := Lib.hid (K1.out.only O2.out (by have := G1.out; omega)); have B2 := Lib.hid (B1.out.trans (O2.out.below (by have := G1.out; omega) B1.out.size))))
  try simp only [Act.put]
  refine region_later (by kernel_rfl) (by kernel_rfl) ?_
  (go_big_quiet_want; refine quiet_load_ky w1.heap.size k _ rfl rfl N2.out ML.out ?_; go_simp; go_big_quiet_on)
  go_big_quiet_step (exact later_call (words_is k _ KO.out))
  (go_big_quiet_want; refine quiet_load_wd w.heap.size x y z _ rfl rfl Q2.out ?_; go_simp; go_big_quiet_on)
  (go_big_quiet_want; refine quiet_val (.bool (!true)) (fun W => ht.out ▸ exec_neq_wd _ _ _ rfl k.w0 k.w1 k.w2 x y z rfl rfl) ?_; go_simp; go_big_quiet_on)
  go_big_quiet_step (fail)
  (go_big_quiet_want; refine quiet_load_ky w1.heap.size k _ rfl rfl N2.out ML.out ?_; go_simp; go_big_quiet_on)
  go_big_quiet_step (exact later_call (kright_is k false _ KO.out hr))
  repeat go_big_quiet_step (fail)
  refine wpQuiet_nil ?_
  intro w3 b3
  have N3 := Lib.hid (N2.out.below b3)
  have K3 := Lib.hid (K2.out.below b3)
  have B3 := Lib.hid (step_ B2.out b3)
  clear b3
  go_wp2_with (first
    | refine wpList_build rfl 27 _ rfl [] rfl _ built27_0 ?_
    | (refine wpList_store_ky rfl _ _ rfl (w.heap.size + 1) kzero kzero rfl rfl K3.out rfl rfl ?_; intro w4 K4 O4))
  refine bodyPost_ret (results_kyE rfl _ _ (w.heap.size + 1) kzero rfl K4.out rfl) rfl ?_
  exact ⟨rfl, B3.out.trans (O4.out.below (by omega) B3.out.size)⟩
set_option maxRecDepth 100000 in
theorem from_yes (x y z : Int) (k : Ky) (w : World) (z0 : 0 ≤ z) (z1 : Hid (z < 18446744073709551616)) (hk : Hid (kcut x y z = k)) (ht : Hid (same3 k.w0 k.w1 k.w2 x y z = true)) (hr : Hid (k.right = true)) :
    Calls Try.prog 7 #[.agg (wd x y z).toArray] w (Froms w true k) := by
  have hz2 := zero27
  have KO := Lib.hid (show k.Ok from hk.out ▸ kcut_ok x y z)
  have ML := Lib.hid KO.out.ml
  have Q0 := Lib.hid ((blk_alloc w 29 (wd x y z)).alloc (.cells kzero.cells.toArray 27))
  have K0 := Lib.hid (blk2 w (.cells (wd x y z).toArray 29) 27 kzero.cells)
  have B0 := Lib.hid (step_ (new_below w (.cells (wd x y z).toArray 29)) (new_below _ (.cells kzero.cells.toArray 27)))
  go_enter Try.func7, Try.ntmps7
  go_wp2_with (refine wpList_load_wd rfl _ rfl w.heap.size 0 x y z rfl Q0.out.range ?_)
  refine (kcut_is x y z k _ z0 z1 hk).mono ?_
  rintro e w1 ⟨rfl, b1⟩
  have N1 := Lib.hid (blk_alloc w1 27 kzero.cells)
  have Q1 := Lib.hid ((Q0.out.below b1).alloc (.cells kzero.cells.toArray 27))
  have K1 := Lib.hid ((K0.out.below b1).alloc (.cells kzero.cells.toArray 27))
  have G1 := Lib.hid (K0.out.below b1).lt
  have B1 := Lib.hid (step_ (step_ B0.out b1) (new_below w1 (.cells kzero.cells.toArray 27)))
  clear b1
  go_wp2_with (first
    | (refine wpList_store_ky rfl _ _ rfl w1.heap.size kzero k rfl rfl N1.out rfl ML.out ?_; intro w2 N2 O2; have Q2 := Lib.hid (Q1.out.only O2.out (by have := G1.out; omega)); have K2 := Lib.hid (K1.out.only O2.out (by have := G1.out; omega)); have B2 := Lib.hid (B1.out.trans (O2.out.below (by have := G1.out; omega) B1.out.size))))
  try simp only [Act.put]
  refine region_later (by kernel_rfl) (by kernel_rfl) ?_
  (go_big_quiet_want; refine quiet_load_ky w1.heap.size k _ rfl rfl N2.out ML.out ?_; go_simp; go_big_quiet_on)
  go_big_quiet_step (exact later_call (words_is k _ KO.out))
  (go_big_quiet_want; refine quiet_load_wd w.heap.size x y z _ rfl rfl Q2.out ?_; go_simp; go_big_quiet_on)
  (go_big_quiet_want; refine quiet_val (.bool (!true)) (fun W => ht.out ▸ exec_neq_wd _ _ _ rfl k.w0 k.w1 k.w2 x y z rfl rfl) ?_; go_simp; go_big_quiet_on)
  go_big_quiet_step (fail)
  (go_big_quiet_want; refine quiet_load_ky w1.heap.size k _ rfl rfl N2.out ML.out ?_; go_simp; go_big_quiet_on)
  go_big_quiet_step (exact later_call (kright_is k true _ KO.out hr))
  repeat go_big_quiet_step (fail)
  refine wpQuiet_nil ?_
  intro w3 b3
  have N3 := Lib.hid (N2.out.below b3)
  have K3 := Lib.hid (K2.out.below b3)
  have B3 := Lib.hid (step_ B2.out b3)
  clear b3
  go_wp2_with (first
    | refine wpList_load_ky rfl _ rfl w1.heap.size 0 k rfl N3.out.range ML.out ?_
    | (refine wpList_store_ky rfl _ _ rfl (w.heap.size + 1) kzero k rfl rfl K3.out rfl ML.out ?_; intro w4 K4 O4))
  refine bodyPost_ret (results_kyE rfl _ _ (w.heap.size + 1) k rfl K4.out ML.out) rfl ?_
  exact ⟨rfl, B3.out.trans (O4.out.below (by omega) B3.out.size)⟩
end Go.Proofs.Ytkjiehifnkkelaa
