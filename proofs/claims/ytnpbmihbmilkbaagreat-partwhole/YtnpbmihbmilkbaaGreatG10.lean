/- The contract of Right of package atom. The contracts of Over and More of package atom and of the reference. -/
import Derived.Test.YtnpbmihbmilkbaaGreatG01
import Derived.Test.YtnpbmihbmilkbaaGreatG08
import Derived.Test.YtnpbmihbmilkbaaGreatG09
namespace Go.Proofs.YtnpbmihbmilkbaaGreat
open Go.RowKit
structure AS (w : World) (a : Am) (W : World) : Prop where
  bel : Below w.heap.size w W
  blk : Blk W w.heap.size 50 a.cells
theorem AS.drew {w : World} {a : Am} {W : World} (h : AS w a W) : AS w a W.drew := ⟨below_drew h.bel, h.blk.drew⟩
theorem AS.below {w : World} {a : Am} {W W' : World} (h : AS w a W) (hb : Below W.heap.size W W') : AS w a W' := ⟨step_ h.bel hb, h.blk.below hb⟩
theorem as_new (w : World) (a : Am) : AS w a (w.alloc (.cells a.cells.toArray 50)) := ⟨new_below w _, blk_alloc w 50 a.cells⟩
structure AT (w : World) (a : Am) (g a1 b1 c1 d1 : Nat) (W : World) : Prop where
  own : AS w a W
  tab : Table W g a1 b1 c1 d1
theorem AT.below {w : World} {a : Am} {g a1 b1 c1 d1 : Nat} {W W' : World} (h : AT w a g a1 b1 c1 d1 W) (hb : Below W.heap.size W W') : AT w a g a1 b1 c1 d1 W' := ⟨h.own.below hb, h.tab.below hb⟩
set_option maxRecDepth 100000 in
set_option maxHeartbeats 2000000 in
theorem aright_no (a : Am) (b : Bool) (w : World) (ha : a.Ok) (hk : Hid (a.k.right = false)) (hb : b = false) : Calls Tryz.prog 92 #[.agg a.cells.toArray] w fun e w' => e = .returned (.bool b) ∧ Below w.heap.size w w' := by
  have S0 := Lib.hid (as_new w a)
  have HA := Lib.hid ha
  clear ha
  subst hb
  go_enter Tryz.func92, Tryz.ntmps92
  go_wp2_with fail
  have S1 := Lib.hid S0.out.drew
  refine wp_region_noPanic ?_
  refine wp_region_held_drew (S := AS w a) (by kernel_rfl) S1.out (fun _ => ?_)
  refine tkm 0 rfl S1.out ?_; try simp only [Act.put, stA, stZ, stS]
  refine tky 1 (.agg a.k.cells.toArray) rfl (yieldsIf_load_mid (by rfl) 48 (.tmp 3) rfl w.heap.size 0 rfl a.k.cells _ (fun W hW => hW.blk.ak) Tryz.underlying48 rfl (size27 HA.out.k.ml)) S1.out ?_; try simp only [Act.put, stA, stZ, stS]
  refine rdy [2] ?_
  refine AllReadyH.cons (arR rfl) (fun K hK => ?_) AllReadyH.nil
  go_simp
  refine (kright_is a.k false _ HA.out.k hk).mono ?_
  rintro e w1 ⟨rfl, b1⟩
  have S2 := Lib.hid (S1.out.below b1)
  clear b1
  go_wp2_with fail
  refine hK.out _ _ ?_ (fun _ => ?_)
  · exact S2.out
  clear hK K
  try simp only [Act.put, stA, stZ, stS]
  refine tkm 3 rfl S2.out ?_; try simp only [Act.put, stA, stZ, stS]
  refine tks 4 rfl S2.out ?_; try simp only [Act.put, stA, stZ, stS]
  refine tks 5 rfl S2.out ?_; try simp only [Act.put, stA, stZ, stS]
  refine tks 6 rfl S2.out ?_; try simp only [Act.put, stA, stZ, stS]
  refine tks 7 rfl S2.out ?_; try simp only [Act.put, stA, stZ, stS]
  refine tks 8 rfl S2.out ?_; try simp only [Act.put, stA, stZ, stS]
  refine tks 9 rfl S2.out ?_; try simp only [Act.put, stA, stZ, stS]
  refine tks 10 rfl S2.out ?_; try simp only [Act.put, stA, stZ, stS]
  refine tks 11 rfl S2.out ?_; try simp only [Act.put, stA, stZ, stS]
  refine tks 12 rfl S2.out ?_; try simp only [Act.put, stA, stZ, stS]
  refine tkm 13 rfl S2.out ?_; try simp only [Act.put, stA, stZ, stS]
  refine tkm 14 rfl S2.out ?_; try simp only [Act.put, stA, stZ, stS]
  refine wpAnyH_done (by kernel_rfl) ?_ _
  refine NoPanic.normal ?_
  go_wp2_with fail
  go_ret
  exact ⟨rfl, S2.out.bel⟩
set_option maxRecDepth 100000 in
set_option maxHeartbeats 2000000 in
theorem aright_1 (a : Am) (b : Bool) (w : World) (ha : a.Ok) (hk : Hid (a.k.right = true)) (hs : Hid (a.k.s = 1)) (hb : Hid (betweenB 1 2 a.v = b)) : Calls Tryz.prog 92 #[.agg a.cells.toArray] w fun e w' => e = .returned (.bool b) ∧ Below w.heap.size w w' := by
  have S0 := Lib.hid (as_new w a)
  have HA := Lib.hid ha
  clear ha
  go_enter Tryz.func92, Tryz.ntmps92
  go_wp2_with fail
  have S1 := Lib.hid S0.out.drew
  refine wp_region_noPanic ?_
  refine wp_region_held_drew (S := AS w a) (by kernel_rfl) S1.out (fun _ => ?_)
  refine tkm 0 rfl S1.out ?_; try simp only [Act.put, stA, stZ, stS]
  refine tky 1 (.agg a.k.cells.toArray) rfl (yieldsIf_load_mid (by rfl) 48 (.tmp 3) rfl w.heap.size 0 rfl a.k.cells _ (fun W hW => hW.blk.ak) Tryz.underlying48 rfl (size27 HA.out.k.ml)) S1.out ?_; try simp only [Act.put, stA, stZ, stS]
  refine rdy [2] ?_
  refine AllReadyH.cons (arR rfl) (fun K hK => ?_) AllReadyH.nil
  go_simp
  refine (kright_is a.k true _ HA.out.k hk).mono ?_
  rintro e w1 ⟨rfl, b1⟩
  have S2 := Lib.hid (S1.out.below b1)
  clear b1
  go_wp2_with fail
  refine hK.out _ _ ?_ (fun _ => ?_)
  · exact S2.out
  clear hK K
  try simp only [Act.put, stA, stZ, stS]
  refine tkm 3 rfl S2.out ?_; try simp only [Act.put, stA, stZ, stS]
  refine tkm 5 rfl S2.out ?_; try simp only [Act.put, stA, stZ, stS]
  refine tkm 6 rfl S2.out ?_; try simp only [Act.put, stA, stZ, stS]
  refine tkv 7 _ rfl (fun W hW => by have c := hW.blk.cell (ac0 a); rw [hs.out] at c; (go_simp; try with_reducible rfl)) S2.out ?_; try simp only [Act.put, stA, stZ, stS]
  refine tkm 10 rfl S2.out ?_; try simp only [Act.put, stA, stZ, stS]
  refine tky 11 (.agg a.v.cells.toArray) rfl (yieldsIf_load_mid (by rfl) 42 (.tmp 13) rfl w.heap.size 12 rfl a.v.cells _ (fun W hW => hW.blk.av HA.out) Tryz.underlying42 rfl (size30 HA.out.v.tl)) S2.out ?_; try simp only [Act.put, stA, stZ, stS]
  refine rdy [4] ?_
  refine AllReadyH.cons (arR rfl) (fun K hK => ?_) AllReadyH.nil
  go_simp
  refine (values_is _).mono ?_
  rintro e w2 ⟨g, a1, b1, c1, d1, rfl, tab, b2⟩
  have T4 := Lib.hid (AT.mk (S2.out.below b2) tab)
  clear b2 tab
  go_wp2_with fail
  refine hK.out _ _ ?_ (fun _ => ?_)
  · exact T4.out.own
  clear hK K
  try simp only [Act.put, stA, stZ, stS]
  refine wpAnyH_narrow (S' := AT w a g a1 b1 c1 d1) (fun W h => h.own) _ _ _ _ ?_
  refine tkm 8 rfl T4.out ?_; try simp only [Act.put, stA, stZ, stS]
  refine tkv 9 _ rfl (fun W hW => by have c := hW.tab.t.cell (i := 1) rfl; (go_simp; try with_reducible rfl)) T4.out ?_; try simp only [Act.put, stA, stZ, stS]
  refine rdy [12] ?_
  refine AllReadyH.cons (arR rfl) (fun K hK => ?_) AllReadyH.nil
  go_simp
  refine (between1_is 1 2 a1 b1 a.v b _ HA.out.v T4.out.tab.a T4.out.tab.b hb).mono ?_
  rintro e w3 ⟨rfl, b3⟩
  have T5 := Lib.hid (T4.out.below b3)
  clear b3
  go_wp2_with fail
  refine hK.out _ _ ?_ (fun _ => ?_)
  · exact T5.out
  clear hK K
  try simp only [Act.put, stA, stZ, stS]
  refine tkm 13 rfl T5.out ?_; try simp only [Act.put, stA, stZ, stS]
  refine tkm 14 rfl T5.out ?_; try simp only [Act.put, stA, stZ, stS]
  refine wpAnyH_done (by kernel_rfl) ?_ _
  refine NoPanic.normal ?_
  go_wp2_with fail
  go_ret
  exact ⟨rfl, T5.out.own.bel⟩
set_option maxRecDepth 100000 in
set_option maxHeartbeats 2000000 in
theorem aright_2 (a : Am) (b : Bool) (w : World) (ha : a.Ok) (hk : Hid (a.k.right = true)) (hs : Hid (a.k.s = 2)) (hb : Hid (betweenB 1 4294967295 a.v = b)) : Calls Tryz.prog 92 #[.agg a.cells.toArray] w fun e w' => e = .returned (.bool b) ∧ Below w.heap.size w w' := by
  have S0 := Lib.hid (as_new w a)
  have HA := Lib.hid ha
  clear ha
  go_enter Tryz.func92, Tryz.ntmps92
  go_wp2_with fail
  have S1 := Lib.hid S0.out.drew
  refine wp_region_noPanic ?_
  refine wp_region_held_drew (S := AS w a) (by kernel_rfl) S1.out (fun _ => ?_)
  refine tkm 0 rfl S1.out ?_; try simp only [Act.put, stA, stZ, stS]
  refine tky 1 (.agg a.k.cells.toArray) rfl (yieldsIf_load_mid (by rfl) 48 (.tmp 3) rfl w.heap.size 0 rfl a.k.cells _ (fun W hW => hW.blk.ak) Tryz.underlying48 rfl (size27 HA.out.k.ml)) S1.out ?_; try simp only [Act.put, stA, stZ, stS]
  refine rdy [2] ?_
  refine AllReadyH.cons (arR rfl) (fun K hK => ?_) AllReadyH.nil
  go_simp
  refine (kright_is a.k true _ HA.out.k hk).mono ?_
  rintro e w1 ⟨rfl, b1⟩
  have S2 := Lib.hid (S1.out.below b1)
  clear b1
  go_wp2_with fail
  refine hK.out _ _ ?_ (fun _ => ?_)
  · exact S2.out
  clear hK K
  try simp only [Act.put, stA, stZ, stS]
  refine tkm 3 rfl S2.out ?_; try simp only [Act.put, stA, stZ, stS]
  refine tkm 5 rfl S2.out ?_; try simp only [Act.put, stA, stZ, stS]
  refine tkm 6 rfl S2.out ?_; try simp only [Act.put, stA, stZ, stS]
  refine tkv 7 _ rfl (fun W hW => by have c := hW.blk.cell (ac0 a); rw [hs.out] at c; (go_simp; try with_reducible rfl)) S2.out ?_; try simp only [Act.put, stA, stZ, stS]
  refine tkm 10 rfl S2.out ?_; try simp only [Act.put, stA, stZ, stS]
  refine tky 11 (.agg a.v.cells.toArray) rfl (yieldsIf_load_mid (by rfl) 42 (.tmp 13) rfl w.heap.size 12 rfl a.v.cells _ (fun W hW => hW.blk.av HA.out) Tryz.underlying42 rfl (size30 HA.out.v.tl)) S2.out ?_; try simp only [Act.put, stA, stZ, stS]
  refine rdy [4] ?_
  refine AllReadyH.cons (arR rfl) (fun K hK => ?_) AllReadyH.nil
  go_simp
  refine (values_is _).mono ?_
  rintro e w2 ⟨g, a1, b1, c1, d1, rfl, tab, b2⟩
  have T4 := Lib.hid (AT.mk (S2.out.below b2) tab)
  clear b2 tab
  go_wp2_with fail
  refine hK.out _ _ ?_ (fun _ => ?_)
  · exact T4.out.own
  clear hK K
  try simp only [Act.put, stA, stZ, stS]
  refine wpAnyH_narrow (S' := AT w a g a1 b1 c1 d1) (fun W h => h.own) _ _ _ _ ?_
  refine tkm 8 rfl T4.out ?_; try simp only [Act.put, stA, stZ, stS]
  refine tkv 9 _ rfl (fun W hW => by have c := hW.tab.t.cell (i := 2) rfl; (go_simp; try with_reducible rfl)) T4.out ?_; try simp only [Act.put, stA, stZ, stS]
  refine rdy [12] ?_
  refine AllReadyH.cons (arR rfl) (fun K hK => ?_) AllReadyH.nil
  go_simp
  refine (between1_is 1 4294967295 c1 d1 a.v b _ HA.out.v T4.out.tab.c T4.out.tab.d hb).mono ?_
  rintro e w3 ⟨rfl, b3⟩
  have T5 := Lib.hid (T4.out.below b3)
  clear b3
  go_wp2_with fail
  refine hK.out _ _ ?_ (fun _ => ?_)
  · exact T5.out
  clear hK K
  try simp only [Act.put, stA, stZ, stS]
  refine tkm 13 rfl T5.out ?_; try simp only [Act.put, stA, stZ, stS]
  refine tkm 14 rfl T5.out ?_; try simp only [Act.put, stA, stZ, stS]
  refine wpAnyH_done (by kernel_rfl) ?_ _
  refine NoPanic.normal ?_
  go_wp2_with fail
  go_ret
  exact ⟨rfl, T5.out.own.bel⟩
set_option maxRecDepth 100000 in
set_option maxHeartbeats 2000000 in
theorem aright_3 (a : Am) (b : Bool) (w : World) (ha : a.Ok) (hk : Hid (a.k.right = true)) (hs : Hid (a.k.s = 3)) (hb : Hid (betweenB 1 4294967295 a.v = b)) : Calls Tryz.prog 92 #[.agg a.cells.toArray] w fun e w' => e = .returned (.bool b) ∧ Below w.heap.size w w' := by
  have S0 := Lib.hid (as_new w a)
  have HA := Lib.hid ha
  clear ha
  go_enter Tryz.func92, Tryz.ntmps92
  go_wp2_with fail
  have S1 := Lib.hid S0.out.drew
  refine wp_region_noPanic ?_
  refine wp_region_held_drew (S := AS w a) (by kernel_rfl) S1.out (fun _ => ?_)
  refine tkm 0 rfl S1.out ?_; try simp only [Act.put, stA, stZ, stS]
  refine tky 1 (.agg a.k.cells.toArray) rfl (yieldsIf_load_mid (by rfl) 48 (.tmp 3) rfl w.heap.size 0 rfl a.k.cells _ (fun W hW => hW.blk.ak) Tryz.underlying48 rfl (size27 HA.out.k.ml)) S1.out ?_; try simp only [Act.put, stA, stZ, stS]
  refine rdy [2] ?_
  refine AllReadyH.cons (arR rfl) (fun K hK => ?_) AllReadyH.nil
  go_simp
  refine (kright_is a.k true _ HA.out.k hk).mono ?_
  rintro e w1 ⟨rfl, b1⟩
  have S2 := Lib.hid (S1.out.below b1)
  clear b1
  go_wp2_with fail
  refine hK.out _ _ ?_ (fun _ => ?_)
  · exact S2.out
  clear hK K
  try simp only [Act.put, stA, stZ, stS]
  refine tkm 3 rfl S2.out ?_; try simp only [Act.put, stA, stZ, stS]
  refine tkm 5 rfl S2.out ?_; try simp only [Act.put, stA, stZ, stS]
  refine tkm 6 rfl S2.out ?_; try simp only [Act.put, stA, stZ, stS]
  refine tkv 7 _ rfl (fun W hW => by have c := hW.blk.cell (ac0 a); rw [hs.out] at c; (go_simp; try with_reducible rfl)) S2.out ?_; try simp only [Act.put, stA, stZ, stS]
  refine tkm 10 rfl S2.out ?_; try simp only [Act.put, stA, stZ, stS]
  refine tky 11 (.agg a.v.cells.toArray) rfl (yieldsIf_load_mid (by rfl) 42 (.tmp 13) rfl w.heap.size 12 rfl a.v.cells _ (fun W hW => hW.blk.av HA.out) Tryz.underlying42 rfl (size30 HA.out.v.tl)) S2.out ?_; try simp only [Act.put, stA, stZ, stS]
  refine rdy [4] ?_
  refine AllReadyH.cons (arR rfl) (fun K hK => ?_) AllReadyH.nil
  go_simp
  refine (values_is _).mono ?_
  rintro e w2 ⟨g, a1, b1, c1, d1, rfl, tab, b2⟩
  have T4 := Lib.hid (AT.mk (S2.out.below b2) tab)
  clear b2 tab
  go_wp2_with fail
  refine hK.out _ _ ?_ (fun _ => ?_)
  · exact T4.out.own
  clear hK K
  try simp only [Act.put, stA, stZ, stS]
  refine wpAnyH_narrow (S' := AT w a g a1 b1 c1 d1) (fun W h => h.own) _ _ _ _ ?_
  refine tkm 8 rfl T4.out ?_; try simp only [Act.put, stA, stZ, stS]
  refine tkv 9 _ rfl (fun W hW => by have c := hW.tab.t.cell (i := 3) rfl; (go_simp; try with_reducible rfl)) T4.out ?_; try simp only [Act.put, stA, stZ, stS]
  refine rdy [12] ?_
  refine AllReadyH.cons (arR rfl) (fun K hK => ?_) AllReadyH.nil
  go_simp
  refine (between1_is 1 4294967295 c1 d1 a.v b _ HA.out.v T4.out.tab.c T4.out.tab.d hb).mono ?_
  rintro e w3 ⟨rfl, b3⟩
  have T5 := Lib.hid (T4.out.below b3)
  clear b3
  go_wp2_with fail
  refine hK.out _ _ ?_ (fun _ => ?_)
  · exact T5.out
  clear hK K
  try simp only [Act.put, stA, stZ, stS]
  refine tkm 13 rfl T5.out ?_; try simp only [Act.put, stA, stZ, stS]
  refine tkm 14 rfl T5.out ?_; try simp only [Act.put, stA, stZ, stS]
  refine wpAnyH_done (by kernel_rfl) ?_ _
  refine NoPanic.normal ?_
  go_wp2_with fail
  go_ret
  exact ⟨rfl, T5.out.own.bel⟩
set_option maxRecDepth 100000 in
set_option maxHeartbeats 2000000 in
theorem aright_4 (a : Am) (b : Bool) (w : World) (ha : a.Ok) (hk : Hid (a.k.right = true)) (hs : Hid (a.k.s = 4)) (hb : Hid (lineB a.v = b)) : Calls Tryz.prog 92 #[.agg a.cells.toArray] w fun e w' => e = .returned (.bool b) ∧ Below w.heap.size w w' := by
  have S0 := Lib.hid (as_new w a)
  have HA := Lib.hid ha
  clear ha
  go_enter Tryz.func92, Tryz.ntmps92
  go_wp2_with fail
  have S1 := Lib.hid S0.out.drew
  refine wp_region_noPanic ?_
  refine wp_region_held_drew (S := AS w a) (by kernel_rfl) S1.out (fun _ => ?_)
  refine tkm 0 rfl S1.out ?_; try simp only [Act.put, stA, stZ, stS]
  refine tky 1 (.agg a.k.cells.toArray) rfl (yieldsIf_load_mid (by rfl) 48 (.tmp 3) rfl w.heap.size 0 rfl a.k.cells _ (fun W hW => hW.blk.ak) Tryz.underlying48 rfl (size27 HA.out.k.ml)) S1.out ?_; try simp only [Act.put, stA, stZ, stS]
  refine rdy [2] ?_
  refine AllReadyH.cons (arR rfl) (fun K hK => ?_) AllReadyH.nil
  go_simp
  refine (kright_is a.k true _ HA.out.k hk).mono ?_
  rintro e w1 ⟨rfl, b1⟩
  have S2 := Lib.hid (S1.out.below b1)
  clear b1
  go_wp2_with fail
  refine hK.out _ _ ?_ (fun _ => ?_)
  · exact S2.out
  clear hK K
  try simp only [Act.put, stA, stZ, stS]
  refine tkm 3 rfl S2.out ?_; try simp only [Act.put, stA, stZ, stS]
  refine tkm 5 rfl S2.out ?_; try simp only [Act.put, stA, stZ, stS]
  refine tkm 6 rfl S2.out ?_; try simp only [Act.put, stA, stZ, stS]
  refine tkv 7 _ rfl (fun W hW => by have c := hW.blk.cell (ac0 a); rw [hs.out] at c; (go_simp; try with_reducible rfl)) S2.out ?_; try simp only [Act.put, stA, stZ, stS]
  refine tkm 10 rfl S2.out ?_; try simp only [Act.put, stA, stZ, stS]
  refine tky 11 (.agg a.v.cells.toArray) rfl (yieldsIf_load_mid (by rfl) 42 (.tmp 13) rfl w.heap.size 12 rfl a.v.cells _ (fun W hW => hW.blk.av HA.out) Tryz.underlying42 rfl (size30 HA.out.v.tl)) S2.out ?_; try simp only [Act.put, stA, stZ, stS]
  refine rdy [4] ?_
  refine AllReadyH.cons (arR rfl) (fun K hK => ?_) AllReadyH.nil
  go_simp
  refine (values_is _).mono ?_
  rintro e w2 ⟨g, a1, b1, c1, d1, rfl, tab, b2⟩
  have T4 := Lib.hid (AT.mk (S2.out.below b2) tab)
  clear b2 tab
  go_wp2_with fail
  refine hK.out _ _ ?_ (fun _ => ?_)
  · exact T4.out.own
  clear hK K
  try simp only [Act.put, stA, stZ, stS]
  refine wpAnyH_narrow (S' := AT w a g a1 b1 c1 d1) (fun W h => h.own) _ _ _ _ ?_
  refine tkm 8 rfl T4.out ?_; try simp only [Act.put, stA, stZ, stS]
  refine tkv 9 _ rfl (fun W hW => by have c := hW.tab.t.cell (i := 4) rfl; (go_simp; try with_reducible rfl)) T4.out ?_; try simp only [Act.put, stA, stZ, stS]
  refine rdy [12] ?_
  refine AllReadyH.cons (arR rfl) (fun K hK => ?_) AllReadyH.nil
  go_simp
  refine (line_is a.v b _ HA.out.v hb).mono ?_
  rintro e w3 ⟨rfl, b3⟩
  have T5 := Lib.hid (T4.out.below b3)
  clear b3
  go_wp2_with fail
  refine hK.out _ _ ?_ (fun _ => ?_)
  · exact T5.out
  clear hK K
  try simp only [Act.put, stA, stZ, stS]
  refine tkm 13 rfl T5.out ?_; try simp only [Act.put, stA, stZ, stS]
  refine tkm 14 rfl T5.out ?_; try simp only [Act.put, stA, stZ, stS]
  refine wpAnyH_done (by kernel_rfl) ?_ _
  refine NoPanic.normal ?_
  go_wp2_with fail
  go_ret
  exact ⟨rfl, T5.out.own.bel⟩
theorem aright_is (a : Am) (b : Bool) (w : World) (ha : a.Ok) (hb : Hid (a.right = b)) : Calls Tryz.prog 92 #[.agg a.cells.toArray] w fun e w' => e = .returned (.bool b) ∧ Below w.heap.size w w' := by
  have h := hb.out
  unfold Am.right at h
  cases hk : a.k.right with
  | false =>
    rw [hk, Bool.false_and] at h
    exact aright_no a b w ha (Lib.hid hk) h.symm
  | true =>
    rw [hk, Bool.true_and] at h
    unfold valB at h
    rcases right_sort hk with hs | hs | hs | hs
    · rw [if_pos hs] at h
      exact aright_1 a b w ha (Lib.hid hk) (Lib.hid hs) (Lib.hid h)
    · rw [if_neg (by omega), if_neg (by omega)] at h
      exact aright_2 a b w ha (Lib.hid hk) (Lib.hid hs) (Lib.hid h)
    · rw [if_neg (by omega), if_neg (by omega)] at h
      exact aright_3 a b w ha (Lib.hid hk) (Lib.hid hs) (Lib.hid h)
    · rw [if_neg (by omega), if_pos hs] at h
      exact aright_4 a b w ha (Lib.hid hk) (Lib.hid hs) (Lib.hid h)
end Go.Proofs.YtnpbmihbmilkbaaGreat
namespace Go.Proofs.YtnpbmihbmilkbaaGreat
open Go.RowKit
set_option maxRecDepth 100000 in
theorem over_is (x y : Vl) (b : Bool) (w : World) (hx : x.Ok) (hy : y.Ok) (hb : Hid (over x y = b)) : Calls Tryz.prog 138 #[.agg x.cells.toArray, .agg y.cells.toArray] w fun e w' => e = .returned (.bool b) ∧ Below w.heap.size w w' := by
  have q1 := (blk_alloc w 42 x.cells).alloc (.cells y.cells.toArray 42)
  have q2 := blk2 w (.cells x.cells.toArray 42) 42 y.cells
  have c1 := q1.cell (vc0 x)
  have c2 := q2.cell (vc0 y)
  have B0 := Lib.hid (step_ (new_below w (.cells x.cells.toArray 42)) (new_below _ (.cells y.cells.toArray 42)))
  have Q1 := Lib.hid q1
  have Q2 := Lib.hid q2
  have HX := Lib.hid hx
  have HY := Lib.hid hy
  have h := hb.out
  unfold over at h
  clear q1 q2 hx hy hb
  by_cases hn : x.n = y.n
  · rw [if_pos hn] at h
    subst h
    have e : (x.n == y.n) = true := by rw [hn]; exact beq_self_eq_true _
    clear hn
    go_enter Tryz.func138, Tryz.ntmps138
    go_wp2_with fail
    refine region_later (by kernel_rfl) (by kernel_rfl) ?_
    go_big_quiet_step (fail)
    (go_big_quiet_want; refine quiet_load_nmo w.heap.size 1 x.t _ rfl rfl Q1.out.vnm Q1.out.lt HX.out.tl ?_; go_simp; go_big_quiet_on)
    go_big_quiet_step (exact later_call (number_is x.t _ _ HX.out.tl (Lib.hid HX.out.tb) (Lib.hid rfl)))
    go_big_quiet_step (fail)
    (go_big_quiet_want; refine quiet_load_nmo (w.heap.size + 1) 1 y.t _ rfl rfl Q2.out.vnm Q2.out.lt HY.out.tl ?_; go_simp; go_big_quiet_on)
    go_big_quiet_step (exact later_call (number_is y.t _ _ HY.out.tl (Lib.hid HY.out.tb) (Lib.hid rfl)))
    repeat go_big_quiet_step (fail)
    refine wpQuiet_nil ?_
    intro w5 hw5
    have B5 := Lib.hid (step_ B0.out hw5)
    clear hw5
    go_wp2_with fail
    go_ret
    exact ⟨rfl, B5.out⟩
  · rw [if_neg hn] at h
    subst h
    have e : (x.n == y.n) = false := beq_eq_false_iff_ne.2 hn
    clear hn
    go_enter Tryz.func138, Tryz.ntmps138
    go_wp2_with fail
    go_ret
    exact ⟨rfl, B0.out⟩
set_option maxRecDepth 100000 in
theorem refOver_is (x y : Vl) (b : Bool) (w : World) (hx : x.Ok) (hy : y.Ok) (hb : Hid (over x y = b)) : Calls Tryz.prog 66 #[.agg x.cells.toArray, .agg y.cells.toArray] w fun e w' => e = .returned (.bool b) ∧ Below w.heap.size w w' := by
  have q1 := (blk_alloc w 42 x.cells).alloc (.cells y.cells.toArray 42)
  have q2 := blk2 w (.cells x.cells.toArray 42) 42 y.cells
  have c1 := q1.cell (vc0 x)
  have c2 := q2.cell (vc0 y)
  have B0 := Lib.hid (step_ (new_below w (.cells x.cells.toArray 42)) (new_below _ (.cells y.cells.toArray 42)))
  have Q1 := Lib.hid q1
  have Q2 := Lib.hid q2
  have HX := Lib.hid hx
  have HY := Lib.hid hy
  have h := hb.out
  unfold over at h
  clear q1 q2 hx hy hb
  by_cases hn : x.n = y.n
  · rw [if_pos hn] at h
    subst h
    have e : (x.n == y.n) = true := by rw [hn]; exact beq_self_eq_true _
    clear hn
    go_enter Tryz.func66, Tryz.ntmps66
    go_wp2_with fail
    refine region_later (by kernel_rfl) (by kernel_rfl) ?_
    go_big_quiet_step (fail)
    (go_big_quiet_want; refine quiet_load_nmo w.heap.size 1 x.t _ rfl rfl Q1.out.vnm Q1.out.lt HX.out.tl ?_; go_simp; go_big_quiet_on)
    go_big_quiet_step (exact later_call (refNumber_is x.t _ _ HX.out.tl (Lib.hid HX.out.tb) (Lib.hid rfl)))
    go_big_quiet_step (fail)
    (go_big_quiet_want; refine quiet_load_nmo (w.heap.size + 1) 1 y.t _ rfl rfl Q2.out.vnm Q2.out.lt HY.out.tl ?_; go_simp; go_big_quiet_on)
    go_big_quiet_step (exact later_call (refNumber_is y.t _ _ HY.out.tl (Lib.hid HY.out.tb) (Lib.hid rfl)))
    repeat go_big_quiet_step (fail)
    refine wpQuiet_nil ?_
    intro w5 hw5
    have B5 := Lib.hid (step_ B0.out hw5)
    clear hw5
    go_wp2_with fail
    go_ret
    exact ⟨rfl, B5.out⟩
  · rw [if_neg hn] at h
    subst h
    have e : (x.n == y.n) = false := beq_eq_false_iff_ne.2 hn
    clear hn
    go_enter Tryz.func66, Tryz.ntmps66
    go_wp2_with fail
    go_ret
    exact ⟨rfl, B0.out⟩
set_option maxRecDepth 100000 in
theorem amore_is (x y : Vl) (w : World) (hx : x.Ok) (hy : y.Ok) : Calls Tryz.prog 119 #[.agg x.cells.toArray, .agg y.cells.toArray] w fun e w' => e = .returned (.agg (more x y).cells.toArray) ∧ Below w.heap.size w w' := by
  have hz := zero30
  have Q1 := Lib.hid (((blk_alloc w 42 x.cells).alloc (.cells y.cells.toArray 42)).alloc (.cells vzero.cells.toArray 42))
  have Q2 := Lib.hid ((blk2 w (.cells x.cells.toArray 42) 42 y.cells).alloc (.cells vzero.cells.toArray 42))
  have Q3 := Lib.hid (blk3 w (.cells x.cells.toArray 42) (.cells y.cells.toArray 42) 42 vzero.cells)
  have B0 := Lib.hid (step_ (step_ (new_below w (.cells x.cells.toArray 42)) (new_below _ (.cells y.cells.toArray 42))) (new_below _ (.cells vzero.cells.toArray 42)))
  have HX := Lib.hid hx
  have HY := Lib.hid hy
  clear hx hy
  cases hb : over x y with
  | true =>
    have HB := Lib.hid hb
    have E := Lib.hid (show more x y = x by unfold more; rw [if_pos hb])
    clear hb
    go_enter Tryz.func119, Tryz.ntmps119
    go_wp2_with (first
      | refine wpList_load_vl rfl _ rfl w.heap.size 0 x rfl Q1.out.range HX.out.tl ?_
      | refine wpList_load_vl rfl _ rfl (w.heap.size + 1) 0 y rfl Q2.out.range HY.out.tl ?_)
    refine (over_is x y true _ HX.out HY.out HB).mono ?_
    rintro e w1 ⟨rfl, b1⟩
    have P1 := Lib.hid (Q1.out.below b1)
    have P3 := Lib.hid (Q3.out.below b1)
    have B1 := Lib.hid (step_ B0.out b1)
    clear b1
    go_wp2_with (first
      | refine wpList_load_vl rfl _ rfl w.heap.size 0 x rfl P1.out.range HX.out.tl ?_
      | (refine wpList_store_vl rfl _ _ rfl (w.heap.size + 1 + 1) vzero x rfl rfl P3.out rfl HX.out.tl ?_; intro w2 N2 O2))
    refine bodyPost_ret (results_vl rfl _ _ (w.heap.size + 1 + 1) x rfl N2.out HX.out.tl) rfl ?_
    exact ⟨by rw [E.out], B1.out.trans (O2.out.below (by omega) B1.out.size)⟩
  | false =>
    have HB := Lib.hid hb
    have E := Lib.hid (show more x y = y by unfold more; rw [if_neg (by rw [hb]; decide)])
    clear hb
    go_enter Tryz.func119, Tryz.ntmps119
    go_wp2_with (first
      | refine wpList_load_vl rfl _ rfl w.heap.size 0 x rfl Q1.out.range HX.out.tl ?_
      | refine wpList_load_vl rfl _ rfl (w.heap.size + 1) 0 y rfl Q2.out.range HY.out.tl ?_)
    refine (over_is x y false _ HX.out HY.out HB).mono ?_
    rintro e w1 ⟨rfl, b1⟩
    have P2 := Lib.hid (Q2.out.below b1)
    have P3 := Lib.hid (Q3.out.below b1)
    have B1 := Lib.hid (step_ B0.out b1)
    clear b1
    go_wp2_with (first
      | refine wpList_load_vl rfl _ rfl (w.heap.size + 1) 0 y rfl P2.out.range HY.out.tl ?_
      | (refine wpList_store_vl rfl _ _ rfl (w.heap.size + 1 + 1) vzero y rfl rfl P3.out rfl HY.out.tl ?_; intro w2 N2 O2))
    refine bodyPost_ret (results_vl rfl _ _ (w.heap.size + 1 + 1) y rfl N2.out HY.out.tl) rfl ?_
    exact ⟨by rw [E.out], B1.out.trans (O2.out.below (by omega) B1.out.size)⟩
set_option maxRecDepth 100000 in
theorem refMore_is (x y : Vl) (w : World) (hx : x.Ok) (hy : y.Ok) : Calls Tryz.prog 49 #[.agg x.cells.toArray, .agg y.cells.toArray] w fun e w' => e = .returned (.agg (more x y).cells.toArray) ∧ Below w.heap.size w w' := by
  have hz := zero30
  have Q1 := Lib.hid (((blk_alloc w 42 x.cells).alloc (.cells y.cells.toArray 42)).alloc (.cells vzero.cells.toArray 42))
  have Q2 := Lib.hid ((blk2 w (.cells x.cells.toArray 42) 42 y.cells).alloc (.cells vzero.cells.toArray 42))
  have Q3 := Lib.hid (blk3 w (.cells x.cells.toArray 42) (.cells y.cells.toArray 42) 42 vzero.cells)
  have B0 := Lib.hid (step_ (step_ (new_below w (.cells x.cells.toArray 42)) (new_below _ (.cells y.cells.toArray 42))) (new_below _ (.cells vzero.cells.toArray 42)))
  have HX := Lib.hid hx
  have HY := Lib.hid hy
  clear hx hy
  cases hb : over x y with
  | true =>
    have HB := Lib.hid hb
    have E := Lib.hid (show more x y = x by unfold more; rw [if_pos hb])
    clear hb
    go_enter Tryz.func49, Tryz.ntmps49
    go_wp2_with (first
      | refine wpList_load_vl rfl _ rfl w.heap.size 0 x rfl Q1.out.range HX.out.tl ?_
      | refine wpList_load_vl rfl _ rfl (w.heap.size + 1) 0 y rfl Q2.out.range HY.out.tl ?_)
    refine (refOver_is x y true _ HX.out HY.out HB).mono ?_
    rintro e w1 ⟨rfl, b1⟩
    have P1 := Lib.hid (Q1.out.below b1)
    have P3 := Lib.hid (Q3.out.below b1)
    have B1 := Lib.hid (step_ B0.out b1)
    clear b1
    go_wp2_with (first
      | refine wpList_load_vl rfl _ rfl w.heap.size 0 x rfl P1.out.range HX.out.tl ?_
      | (refine wpList_store_vl rfl _ _ rfl (w.heap.size + 1 + 1) vzero x rfl rfl P3.out rfl HX.out.tl ?_; intro w2 N2 O2))
    refine bodyPost_ret (results_vl rfl _ _ (w.heap.size + 1 + 1) x rfl N2.out HX.out.tl) rfl ?_
    exact ⟨by rw [E.out], B1.out.trans (O2.out.below (by omega) B1.out.size)⟩
  | false =>
    have HB := Lib.hid hb
    have E := Lib.hid (show more x y = y by unfold more; rw [if_neg (by rw [hb]; decide)])
    clear hb
    go_enter Tryz.func49, Tryz.ntmps49
    go_wp2_with (first
      | refine wpList_load_vl rfl _ rfl w.heap.size 0 x rfl Q1.out.range HX.out.tl ?_
      | refine wpList_load_vl rfl _ rfl (w.heap.size + 1) 0 y rfl Q2.out.range HY.out.tl ?_)
    refine (refOver_is x y false _ HX.out HY.out HB).mono ?_
    rintro e w1 ⟨rfl, b1⟩
    have P2 := Lib.hid (Q2.out.below b1)
    have P3 := Lib.hid (Q3.out.below b1)
    have B1 := Lib.hid (step_ B0.out b1)
    clear b1
    go_wp2_with (first
      | refine wpList_load_vl rfl _ rfl (w.heap.size + 1) 0 y rfl P2.out.range HY.out.tl ?_
      | (refine wpList_store_vl rfl _ _ rfl (w.heap.size + 1 + 1) vzero y rfl rfl P3.out rfl HY.out.tl ?_; intro w2 N2 O2))
    refine bodyPost_ret (results_vl rfl _ _ (w.heap.size + 1 + 1) y rfl N2.out HY.out.tl) rfl ?_
    exact ⟨by rw [E.out], B1.out.trans (O2.out.below (by omega) B1.out.size)⟩
end Go.Proofs.YtnpbmihbmilkbaaGreat
