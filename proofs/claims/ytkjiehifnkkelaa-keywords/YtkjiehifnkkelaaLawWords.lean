/- The walk of KeyWords. -/
import Derived.Test.YtkjiehifnkkelaaLaws
import Derived.Test.YtkjiehifnkkelaaRefLess
import Derived.Test.YtkjiehifnkkelaaKFroms
namespace Go.Proofs.Ytkjiehifnkkelaa
open Go.RowKit

theorem same3_self (x y z : Int) : same3 x y z x y z = true := by simp [same3]
set_option maxRecDepth 100000 in
set_option maxHeartbeats 1000000 in
theorem keyWords_any (a b : Ky) (x y z : Int) (w : World) (ha : a.Ok) (hb : b.Ok) (hx : 0 ≤ x ∧ x < 18446744073709551616) (hy : 0 ≤ y ∧ y < 18446744073709551616) (hz : 0 ≤ z ∧ z < 18446744073709551616) :
    Calls Try.prog 3 #[.agg a.cells.toArray, .agg b.cells.toArray, .agg (wd x y z).toArray] w fun e w' => e = .returned (.bool true) ∧ Below w.heap.size w w' := by
  have hz2 := zero27
  have HA := Lib.hid ha
  have HB := Lib.hid hb
  have HF1 : Hid (∀ W, Calls Try.prog 7 #[.agg (wd x y z).toArray] W (Froms W (fromB x y z) (kcut x y z))) := Lib.hid fun W => from_any x y z W hz.1 hz.2
  have HF2 : Hid (∀ W, Calls Try.prog 8 #[.agg (wd x y z).toArray] W (Froms W (fromB x y z) (kcut x y z))) := Lib.hid fun W => refFrom_any x y z W hx.1 hx.2 hy.1 hy.2 hz.1 hz.2
  obtain ⟨k, hk⟩ : ∃ k, okK (fromB x y z) (kcut x y z) = k := ⟨_, rfl⟩
  obtain ⟨e, he⟩ : ∃ e, okE (fromB x y z) = e := ⟨_, rfl⟩
  have KL := Lib.hid (show k.m.length = 8 from hk ▸ okK_len (kcut_ok x y z).ml)
  unfold Froms at HF1 HF2
  rw [hk, he] at HF1 HF2
  have A0 := Lib.hid (((blk_alloc w 27 a.cells).alloc (.cells b.cells.toArray 27)).alloc (.cells (wd x y z).toArray 29))
  have C0 := Lib.hid ((blk2 w (.cells a.cells.toArray 27) 27 b.cells).alloc (.cells (wd x y z).toArray 29))
  have D0 := Lib.hid (blk3 w (.cells a.cells.toArray 27) (.cells b.cells.toArray 27) 29 (wd x y z))
  have B0 := Lib.hid (step_ (step_ (new_below w (.cells a.cells.toArray 27)) (new_below _ (.cells b.cells.toArray 27))) (new_below _ (.cells (wd x y z).toArray 29)))
  obtain ⟨r, hr⟩ : ∃ r, a.right = r := ⟨_, rfl⟩
  have HR := Lib.hid hr
  obtain ⟨t, ht⟩ : ∃ t, a.less b = t := ⟨_, rfl⟩
  have HT := Lib.hid ht
  clear ha hb hx hy hz hk he hr ht
  go_enter Try.func3, Try.ntmps3
  go_wp2_with (refine wpList_load_wd rfl _ rfl (w.heap.size + 2) 0 x y z rfl D0.out.range ?_)
  refine (HF1.out _).mono ?_
  rintro ee w1 ⟨rfl, b1⟩
  have N1 := Lib.hid (blk_alloc w1 27 kzero.cells)
  have A1 := Lib.hid ((A0.out.below b1).alloc (.cells kzero.cells.toArray 27))
  have C1 := Lib.hid ((C0.out.below b1).alloc (.cells kzero.cells.toArray 27))
  have D1 := Lib.hid ((D0.out.below b1).alloc (.cells kzero.cells.toArray 27))
  have G1 := Lib.hid (D0.out.below b1).lt
  have B1 := Lib.hid (step_ (step_ B0.out b1) (new_below w1 (.cells kzero.cells.toArray 27)))
  clear b1
  go_wp2_with (first
    | (refine wpList_store_ky rfl _ _ rfl w1.heap.size kzero k rfl rfl N1.out rfl KL.out ?_; intro w2 N2 O2; have A2 := Lib.hid (A1.out.only O2.out (by have := G1.out; omega)); have C2 := Lib.hid (C1.out.only O2.out (by have := G1.out; omega)); have D2 := Lib.hid (D1.out.only O2.out (by have := G1.out; omega)); have B2 := Lib.hid (B1.out.trans (O2.out.below (by have := G1.out; omega) B1.out.size)))
    | refine wpList_load_wd rfl _ rfl (w.heap.size + 2) 0 x y z rfl D2.out.range ?_)
  refine (HF2.out _).mono ?_
  rintro ee w3 ⟨rfl, b3⟩
  have N3 := Lib.hid (blk_alloc w3 27 kzero.cells)
  have A3 := Lib.hid ((A2.out.below b3).alloc (.cells kzero.cells.toArray 27))
  have C3 := Lib.hid ((C2.out.below b3).alloc (.cells kzero.cells.toArray 27))
  have M3 := Lib.hid ((N2.out.below b3).alloc (.cells kzero.cells.toArray 27))
  have G3 := Lib.hid (N2.out.below b3).lt
  have F3 := Lib.hid (D2.out.below b3).lt
  have B3 := Lib.hid (step_ (step_ B2.out b3) (new_below w3 (.cells kzero.cells.toArray 27)))
  clear b3
  go_wp2_with (first
    | (refine wpList_store_ky rfl _ _ rfl w3.heap.size kzero k rfl rfl N3.out rfl KL.out ?_; intro w4 N4 O4; have A4 := Lib.hid (A3.out.only O4.out (by have := F3.out; omega)); have C4 := Lib.hid (C3.out.only O4.out (by have := F3.out; omega)); have M4 := Lib.hid (M3.out.only O4.out (by have := G3.out; omega)); have B4 := Lib.hid (B3.out.trans (O4.out.below (by have := F3.out; omega) B3.out.size))))
  refine region_later (by kernel_rfl) (by kernel_rfl) ?_
  (go_big_quiet_want; refine quiet_load_ky w.heap.size a _ rfl rfl A4.out HA.out.ml ?_; go_simp; go_big_quiet_on)
  go_big_quiet_step (exact later_call (kright_is a r _ HA.out HR))
  (go_big_quiet_want; refine quiet_load_ky w.heap.size a _ rfl rfl A4.out HA.out.ml ?_; go_simp; go_big_quiet_on)
  go_big_quiet_step (exact later_call (refKright_is a r _ HA.out HR))
  go_big_quiet_step (fail)
  go_big_quiet_step (fail)
  (go_big_quiet_want; refine quiet_load_ky w.heap.size a _ rfl rfl A4.out HA.out.ml ?_; go_simp; go_big_quiet_on)
  go_big_quiet_step (exact later_call (words_is a _ HA.out))
  (go_big_quiet_want; refine quiet_load_ky w.heap.size a _ rfl rfl A4.out HA.out.ml ?_; go_simp; go_big_quiet_on)
  go_big_quiet_step (exact later_call (refWords_is a _ HA.out))
  (go_big_quiet_want; refine quiet_val (.bool true) (fun W => same3_self a.w0 a.w1 a.w2 ▸ exec_eq_wd _ _ _ rfl a.w0 a.w1 a.w2 a.w0 a.w1 a.w2 rfl rfl) ?_; go_simp; go_big_quiet_on)
  go_big_quiet_step (fail)
  go_big_quiet_step (fail)
  (go_big_quiet_want; refine quiet_load_ky w.heap.size a _ rfl rfl A4.out HA.out.ml ?_; go_simp; go_big_quiet_on)
  (go_big_quiet_want; refine quiet_load_ky (w.heap.size + 1) b _ rfl rfl C4.out HB.out.ml ?_; go_simp; go_big_quiet_on)
  go_big_quiet_step (exact later_call (less_is a b t _ HA.out HB.out HT))
  (go_big_quiet_want; refine quiet_load_ky w.heap.size a _ rfl rfl A4.out HA.out.ml ?_; go_simp; go_big_quiet_on)
  (go_big_quiet_want; refine quiet_load_ky (w.heap.size + 1) b _ rfl rfl C4.out HB.out.ml ?_; go_simp; go_big_quiet_on)
  go_big_quiet_step (exact later_call (refLess_is a b t _ HA.out HB.out HT))
  go_big_quiet_step (fail)
  go_big_quiet_step (fail)
  go_big_quiet_step (fail)
  (go_big_quiet_want; refine quiet_load_ky w1.heap.size k _ rfl rfl M4.out KL.out ?_; go_simp; go_big_quiet_on)
  (go_big_quiet_want; refine quiet_load_ky w3.heap.size k _ rfl rfl N4.out KL.out ?_; go_simp; go_big_quiet_on)
  (go_big_quiet_want; refine quiet_val (.bool true) (fun W => (decide_eq_true (rfl : k = k)) ▸ exec_eq_ky _ _ _ rfl k k rfl rfl KL.out KL.out) ?_; go_simp; go_big_quiet_on)
  go_big_quiet_step (fail)
  go_big_quiet_step (fail)
  go_big_quiet_step (fail)
  go_big_quiet_step (fail)
  go_big_quiet_step (fail)
  go_big_quiet_step (fail)
  go_big_quiet_step (fail)
  go_big_quiet_step (exact later_call (alive_is _))
  repeat go_big_quiet_step (fail)
  refine wpQuiet_nil ?_
  intro w5 hw5
  have B5 := Lib.hid (step_ B4.out hw5)
  clear hw5
  go_wp2_with fail
  go_ret
  exact ⟨rfl, B5.out⟩
end Go.Proofs.Ytkjiehifnkkelaa
