/- The contracts of Bytes and Sum of the reference, and of Sum of package atom. No program in it: vectors as lists of numbers: joins, meets, comparisons. No program in it: the vector of a state. No program in it: vectors as lists of numbers: joins, meets, comparisons. No program in it: the vector of a state. Tags of rows, no program in it: tags of an item, those that are there, items that are present, what is added and dropped, and the laws of joining them. No program in it: notes of carts: the key of a note, the note of a cart in a state, what is written, and the laws of joining it. Vectors as values and in memory: loads, stores, builds and comparisons of whole ones. The contract of SortFunc of slices at this program, laid by the guide's own tool in plain words. -/
import Derived.Test.YtnpbmihbmilkbaaGreatG16
import Derived.Test.YtnpbmihbmilkbaaGreatG20
import Derived.Test.YtnpbmihbmilkbaaGreatG17
import Derived.Test.YtnpbmihbmilkbaaGreatG19
import Derived.Test.YtnpbmihbmilkbaaGreatG22
import Derived.Test.YtnpbmihbmilkbaaGreatG01
import Derived.Test.YtnpbmihbmilkbaaGreatG02
import Derived.Test.YtnpbmihbmilkbaaGreatG07
import Derived.Test.YtnpbmihbmilkbaaGreatProg
import Derived.Shelf.SlSortCmp.WholeK
namespace Go.Proofs.YtnpbmihbmilkbaaGreat
open Go.RowKit
set_option maxRecDepth 100000 in
theorem rb_no (a : Am) (w : World) (ha : a.Ok) (hr : a.right = false) : Calls Tryz.prog 43 #[.agg a.cells.toArray] w (GivesBytes w (abytes a)) := by
  have S0 := Lib.hid (as_new w a)
  have HA := Lib.hid ha
  have HR := Lib.hid hr
  have E := Lib.hid (show abytes a = [] by unfold abytes; rw [hr]; rfl)
  clear ha hr
  go_enter Tryz.func43, Tryz.ntmps43
  go_wp2_with (first
    | go_skip
    | refine wpList_load_am rfl _ rfl w.heap.size a rfl S0.out.blk HA.out ?_)
  refine (refAright_is a false _ HA.out HR).mono ?_
  rintro e w1 ⟨rfl, b1⟩
  have S1 := Lib.hid (S0.out.below b1)
  clear b1
  go_wp2_with fail
  go_ret
  exact ⟨_, rfl, by rw [E.out]; exact bytes_nil _, S1.out.bel⟩
set_option maxRecDepth 100000 in
set_option maxHeartbeats 1000000 in
theorem rb_1 (a : Am) (w : World) (ha : a.Ok) (hr : a.right = true) (hs : a.k.s = 1) (hx : a.v.n < 256) : Calls Tryz.prog 43 #[.agg a.cells.toArray] w (GivesBytes w (abytes a)) := by
  have S0 := Lib.hid (as_new w a)
  have HA := Lib.hid ha
  have HR := Lib.hid hr
  have HS := Lib.hid hs
  have n0 := ha.v.n0
  have wx : IntKind.u8.wrap a.v.n = a.v.n := by rw [IntKind.wrap_u8]; omega
  have HX := Lib.hid hx
  clear hx
  have HE := Lib.hid (show abytes a = aenc a by unfold abytes; rw [hr]; rfl)
  have HF := Lib.hid (aenc1 hs)
  have KL := Lib.hid (kenc_len ha.k)
  have VN := Lib.hid (M.var_ten a.v.n ha.v.n0 ha.v.n1)
  have HO : Hid (∃ L0, kenc a.k = L0 ∧ ∀ W, Calls Tryz.prog 59 #[.agg a.k.cells.toArray] W (GivesRow W L0)) := Lib.hid ⟨_, rfl, fun W => refOut_is a.k W ha.k⟩
  obtain ⟨L0, hL0, hO⟩ := HO.out
  have HL0 := Lib.hid hL0
  have HO0 := Lib.hid hO
  rw [hL0] at KL
  clear ha hr hs HO hL0 hO
  go_enter Tryz.func43, Tryz.ntmps43
  go_wp2_with (first
    | go_skip
    | refine wpList_load_am rfl _ rfl w.heap.size a rfl S0.out.blk HA.out ?_)
  refine (refAright_is a true _ HA.out HR).mono ?_
  rintro e w1 ⟨rfl, b1⟩
  have S1 := Lib.hid (S0.out.below b1)
  clear b1
  go_wp2_with (refine wpList_load_ky rfl _ rfl w.heap.size 0 a.k rfl S1.out.blk.ak HA.out.k.ml ?_)
  refine (HO0.out _).mono ?_
  rintro e w2 ⟨v2, rfl, hown, hy, hlt, b2⟩
  have P2 := Lib.hid hown
  have Y2 := Lib.hid hy
  have T2 := Lib.hid hlt
  have Z2 := Lib.hid (show w.heap.size ≤ w1.heap.size + 1 from Nat.le_succ_of_le S1.out.bel.size)
  have S2 := Lib.hid (S1.out.below b2)
  have c0 := S2.out.blk.cell (ac0 a)
  rw [HS.out] at c0
  have c12 := S2.out.blk.cell (ac12 HA.out)
  clear hown hy hlt b2
  have P3 := Lib.hid (owns_below P2.out (new_below w2 (.cells #[.int .u8 a.v.n] 5)))
  have B3 := Lib.hid (step_ S2.out.bel (new_below w2 (.cells #[.int .u8 a.v.n] 5)))
  have U3 := Lib.hid (bytes_one w2 a.v.n n0 HX.out)
  have T3 := Lib.hid (Nat.le_trans T2.out (new_below w2 (.cells #[.int .u8 a.v.n] 5)).size)
  have YN := Lib.hid (show M.Bytes [a.v.n] from fun y hy => by obtain rfl := List.mem_singleton.1 hy; exact ⟨n0, HX.out⟩)
  have HA1 : Hid (∃ A1, L0 ++ [a.v.n] = A1) := Lib.hid ⟨_, rfl⟩
  obtain ⟨A1, hA1⟩ := HA1.out
  have E1 := Lib.hid hA1
  have YA := Lib.hid (show M.Bytes A1 from hA1 ▸ Y2.out.app YN.out)
  clear HA1 hA1
  go_wp2_with ((at_builtin; refine app_bytesK _ rfl (.tmp 14) (.tmp 19) rfl (w1.heap.size + 1) _ _ L0 [a.v.n] rfl P3.out rfl U3.out (by have := KL.out; simp; omega) T3.out ?_; intro v4 w4 hown4 hbel4 hk4; rw [E1.out] at hown4; have P4 := Lib.hid hown4; have B4 := Lib.hid (B3.out.trans (hbel4.mono Z2.out)); clear hown4 hbel4 hk4))
  have V4 := Lib.hid (bytes_of_owns P4.out YA.out)
  go_ret
  exact ⟨_, rfl, by rw [HE.out, HF.out, HL0.out, E1.out]; exact V4.out, B4.out⟩
set_option maxRecDepth 100000 in
set_option maxHeartbeats 1000000 in
theorem rb_2 (a : Am) (w : World) (ha : a.Ok) (hr : a.right = true) (hs : a.k.s = 2) : Calls Tryz.prog 43 #[.agg a.cells.toArray] w (GivesBytes w (abytes a)) := by
  have S0 := Lib.hid (as_new w a)
  have HA := Lib.hid ha
  have HR := Lib.hid hr
  have HS := Lib.hid hs
  have n0 := ha.v.n0
  have HE := Lib.hid (show abytes a = aenc a by unfold abytes; rw [hr]; rfl)
  have HF := Lib.hid (aenc2 (a := a) (by omega) (by omega))
  have KL := Lib.hid (kenc_len ha.k)
  have VN := Lib.hid (M.var_ten a.v.n ha.v.n0 ha.v.n1)
  have HO : Hid (∃ L0, kenc a.k = L0 ∧ ∀ W, Calls Tryz.prog 59 #[.agg a.k.cells.toArray] W (GivesRow W L0)) := Lib.hid ⟨_, rfl, fun W => refOut_is a.k W ha.k⟩
  obtain ⟨L0, hL0, hO⟩ := HO.out
  have HL0 := Lib.hid hL0
  have HO0 := Lib.hid hO
  rw [hL0] at KL
  clear ha hr hs HO hL0 hO
  go_enter Tryz.func43, Tryz.ntmps43
  go_wp2_with (first
    | go_skip
    | refine wpList_load_am rfl _ rfl w.heap.size a rfl S0.out.blk HA.out ?_)
  refine (refAright_is a true _ HA.out HR).mono ?_
  rintro e w1 ⟨rfl, b1⟩
  have S1 := Lib.hid (S0.out.below b1)
  clear b1
  go_wp2_with (refine wpList_load_ky rfl _ rfl w.heap.size 0 a.k rfl S1.out.blk.ak HA.out.k.ml ?_)
  refine (HO0.out _).mono ?_
  rintro e w2 ⟨v2, rfl, hown, hy, hlt, b2⟩
  have P2 := Lib.hid hown
  have Y2 := Lib.hid hy
  have T2 := Lib.hid hlt
  have Z2 := Lib.hid (show w.heap.size ≤ w1.heap.size + 1 from Nat.le_succ_of_le S1.out.bel.size)
  have S2 := Lib.hid (S1.out.below b2)
  have c0 := S2.out.blk.cell (ac0 a)
  rw [HS.out] at c0
  have c12 := S2.out.blk.cell (ac12 HA.out)
  clear hown hy hlt b2
  go_wp2_with fail
  refine (refVar_is a.v.n _ n0 HA.out.v.n1).mono ?_
  rintro e w3 ⟨v3, rfl, hv3, b3⟩
  have P3 := Lib.hid (owns_below P2.out b3)
  have V3 := Lib.hid hv3
  have S3 := Lib.hid (S2.out.below b3)
  have T3 := Lib.hid (Nat.le_trans T2.out b3.size)
  have YN := Lib.hid (M.var_bytes a.v.n n0)
  have HA1 : Hid (∃ A1, L0 ++ M.var a.v.n = A1) := Lib.hid ⟨_, rfl⟩
  obtain ⟨A1, hA1⟩ := HA1.out
  have E1 := Lib.hid hA1
  have LA := Lib.hid (show A1.length ≤ 41 by rw [← hA1, List.length_append]; have := KL.out; have := VN.out; omega)
  have YA := Lib.hid (show M.Bytes A1 from hA1 ▸ Y2.out.app YN.out)
  clear hv3 b3 HA1 hA1 c0 c12
  go_wp2_with (first
    | go_skip
    | (at_builtin; refine app_bytesK _ rfl (.tmp 21) (.tmp 25) rfl (w1.heap.size + 1) _ _ L0 (M.var a.v.n) rfl P3.out rfl V3.out (by have := KL.out; have := VN.out; omega) T3.out ?_; intro v4 w4 hown4 hbel4 hk4; rw [E1.out] at hown4; have P4 := Lib.hid hown4; have B4 := Lib.hid (S3.out.bel.trans (hbel4.mono Z2.out)); have T4 := Lib.hid (Nat.le_trans T3.out hbel4.size); have Q4 := Lib.hid (hk4 _ _ _ (by decide) S3.out.blk); have d0 := Q4.out.cell (ac0 a); rw [HS.out] at d0; clear hown4 hbel4 hk4))
  have V4 := Lib.hid (bytes_of_owns P4.out YA.out)
  go_ret
  exact ⟨_, rfl, by rw [HE.out, HF.out, HL0.out, E1.out]; exact V4.out, B4.out⟩
set_option maxRecDepth 100000 in
set_option maxHeartbeats 1000000 in
theorem rb_3 (a : Am) (w : World) (ha : a.Ok) (hr : a.right = true) (hs : a.k.s = 3) : Calls Tryz.prog 43 #[.agg a.cells.toArray] w (GivesBytes w (abytes a)) := by
  have S0 := Lib.hid (as_new w a)
  have HA := Lib.hid ha
  have HR := Lib.hid hr
  have HS := Lib.hid hs
  have n0 := ha.v.n0
  have HE := Lib.hid (show abytes a = aenc a by unfold abytes; rw [hr]; rfl)
  have HF := Lib.hid (aenc2 (a := a) (by omega) (by omega))
  have KL := Lib.hid (kenc_len ha.k)
  have VN := Lib.hid (M.var_ten a.v.n ha.v.n0 ha.v.n1)
  have HO : Hid (∃ L0, kenc a.k = L0 ∧ ∀ W, Calls Tryz.prog 59 #[.agg a.k.cells.toArray] W (GivesRow W L0)) := Lib.hid ⟨_, rfl, fun W => refOut_is a.k W ha.k⟩
  obtain ⟨L0, hL0, hO⟩ := HO.out
  have HL0 := Lib.hid hL0
  have HO0 := Lib.hid hO
  rw [hL0] at KL
  clear ha hr hs HO hL0 hO
  go_enter Tryz.func43, Tryz.ntmps43
  go_wp2_with (first
    | go_skip
    | refine wpList_load_am rfl _ rfl w.heap.size a rfl S0.out.blk HA.out ?_)
  refine (refAright_is a true _ HA.out HR).mono ?_
  rintro e w1 ⟨rfl, b1⟩
  have S1 := Lib.hid (S0.out.below b1)
  clear b1
  go_wp2_with (refine wpList_load_ky rfl _ rfl w.heap.size 0 a.k rfl S1.out.blk.ak HA.out.k.ml ?_)
  refine (HO0.out _).mono ?_
  rintro e w2 ⟨v2, rfl, hown, hy, hlt, b2⟩
  have P2 := Lib.hid hown
  have Y2 := Lib.hid hy
  have T2 := Lib.hid hlt
  have Z2 := Lib.hid (show w.heap.size ≤ w1.heap.size + 1 from Nat.le_succ_of_le S1.out.bel.size)
  have S2 := Lib.hid (S1.out.below b2)
  have c0 := S2.out.blk.cell (ac0 a)
  rw [HS.out] at c0
  have c12 := S2.out.blk.cell (ac12 HA.out)
  clear hown hy hlt b2
  go_wp2_with fail
  refine (refVar_is a.v.n _ n0 HA.out.v.n1).mono ?_
  rintro e w3 ⟨v3, rfl, hv3, b3⟩
  have P3 := Lib.hid (owns_below P2.out b3)
  have V3 := Lib.hid hv3
  have S3 := Lib.hid (S2.out.below b3)
  have T3 := Lib.hid (Nat.le_trans T2.out b3.size)
  have YN := Lib.hid (M.var_bytes a.v.n n0)
  have HA1 : Hid (∃ A1, L0 ++ M.var a.v.n = A1) := Lib.hid ⟨_, rfl⟩
  obtain ⟨A1, hA1⟩ := HA1.out
  have E1 := Lib.hid hA1
  have LA := Lib.hid (show A1.length ≤ 41 by rw [← hA1, List.length_append]; have := KL.out; have := VN.out; omega)
  have YA := Lib.hid (show M.Bytes A1 from hA1 ▸ Y2.out.app YN.out)
  clear hv3 b3 HA1 hA1 c0 c12
  go_wp2_with (first
    | go_skip
    | (at_builtin; refine app_bytesK _ rfl (.tmp 21) (.tmp 25) rfl (w1.heap.size + 1) _ _ L0 (M.var a.v.n) rfl P3.out rfl V3.out (by have := KL.out; have := VN.out; omega) T3.out ?_; intro v4 w4 hown4 hbel4 hk4; rw [E1.out] at hown4; have P4 := Lib.hid hown4; have B4 := Lib.hid (S3.out.bel.trans (hbel4.mono Z2.out)); have T4 := Lib.hid (Nat.le_trans T3.out hbel4.size); have Q4 := Lib.hid (hk4 _ _ _ (by decide) S3.out.blk); have d0 := Q4.out.cell (ac0 a); rw [HS.out] at d0; clear hown4 hbel4 hk4))
  have V4 := Lib.hid (bytes_of_owns P4.out YA.out)
  go_ret
  exact ⟨_, rfl, by rw [HE.out, HF.out, HL0.out, E1.out]; exact V4.out, B4.out⟩
set_option maxRecDepth 100000 in
set_option maxHeartbeats 1000000 in
theorem rb_4 (a : Am) (w : World) (ha : a.Ok) (hr : a.right = true) (hs : a.k.s = 4) : Calls Tryz.prog 43 #[.agg a.cells.toArray] w (GivesBytes w (abytes a)) := by
  have S0 := Lib.hid (as_new w a)
  have HA := Lib.hid ha
  have HR := Lib.hid hr
  have HS := Lib.hid hs
  have n0 := ha.v.n0
  have HE := Lib.hid (show abytes a = aenc a by unfold abytes; rw [hr]; rfl)
  have HF := Lib.hid (aenc4 hs)
  have KL := Lib.hid (kenc_len ha.k)
  have VN := Lib.hid (M.var_ten a.v.n ha.v.n0 ha.v.n1)
  have HO : Hid (∃ L0, kenc a.k = L0 ∧ ∀ W, Calls Tryz.prog 59 #[.agg a.k.cells.toArray] W (GivesRow W L0)) := Lib.hid ⟨_, rfl, fun W => refOut_is a.k W ha.k⟩
  obtain ⟨L0, hL0, hO⟩ := HO.out
  have HL0 := Lib.hid hL0
  have HO0 := Lib.hid hO
  rw [hL0] at KL
  clear ha hr hs HO hL0 hO
  go_enter Tryz.func43, Tryz.ntmps43
  go_wp2_with (first
    | go_skip
    | refine wpList_load_am rfl _ rfl w.heap.size a rfl S0.out.blk HA.out ?_)
  refine (refAright_is a true _ HA.out HR).mono ?_
  rintro e w1 ⟨rfl, b1⟩
  have S1 := Lib.hid (S0.out.below b1)
  clear b1
  go_wp2_with (refine wpList_load_ky rfl _ rfl w.heap.size 0 a.k rfl S1.out.blk.ak HA.out.k.ml ?_)
  refine (HO0.out _).mono ?_
  rintro e w2 ⟨v2, rfl, hown, hy, hlt, b2⟩
  have P2 := Lib.hid hown
  have Y2 := Lib.hid hy
  have T2 := Lib.hid hlt
  have Z2 := Lib.hid (show w.heap.size ≤ w1.heap.size + 1 from Nat.le_succ_of_le S1.out.bel.size)
  have S2 := Lib.hid (S1.out.below b2)
  have c0 := S2.out.blk.cell (ac0 a)
  rw [HS.out] at c0
  have c12 := S2.out.blk.cell (ac12 HA.out)
  clear hown hy hlt b2
  go_wp2_with fail
  refine (refVar_is a.v.n _ n0 HA.out.v.n1).mono ?_
  rintro e w3 ⟨v3, rfl, hv3, b3⟩
  have P3 := Lib.hid (owns_below P2.out b3)
  have V3 := Lib.hid hv3
  have S3 := Lib.hid (S2.out.below b3)
  have T3 := Lib.hid (Nat.le_trans T2.out b3.size)
  have YN := Lib.hid (M.var_bytes a.v.n n0)
  have HA1 : Hid (∃ A1, L0 ++ M.var a.v.n = A1) := Lib.hid ⟨_, rfl⟩
  obtain ⟨A1, hA1⟩ := HA1.out
  have E1 := Lib.hid hA1
  have LA := Lib.hid (show A1.length ≤ 41 by rw [← hA1, List.length_append]; have := KL.out; have := VN.out; omega)
  have YA := Lib.hid (show M.Bytes A1 from hA1 ▸ Y2.out.app YN.out)
  clear hv3 b3 HA1 hA1 c0 c12
  go_wp2_with (first
    | go_skip
    | (at_builtin; refine app_bytesK _ rfl (.tmp 21) (.tmp 25) rfl (w1.heap.size + 1) _ _ L0 (M.var a.v.n) rfl P3.out rfl V3.out (by have := KL.out; have := VN.out; omega) T3.out ?_; intro v4 w4 hown4 hbel4 hk4; rw [E1.out] at hown4; have P4 := Lib.hid hown4; have B4 := Lib.hid (S3.out.bel.trans (hbel4.mono Z2.out)); have T4 := Lib.hid (Nat.le_trans T3.out hbel4.size); have Q4 := Lib.hid (hk4 _ _ _ (by decide) S3.out.blk); have d0 := Q4.out.cell (ac0 a); rw [HS.out] at d0; clear hown4 hbel4 hk4)
    | refine wpList_load_nm rfl _ rfl w.heap.size 13 a.v.t rfl (Q4.out.avt HA.out) HA.out.v.tl ?_
    | refine wpList_build rfl 93 _ rfl [(0, .int .i64 2), (3, .agg (nm a.v.t))] rfl _ (built76_2 HA.out.v.tl) ?_)
  refine (out2 (pcOf a.v.t) _ (pcOf_ok _ HA.out.v.tl HA.out.v.tb) rfl).mono ?_
  rintro e w5 ⟨v5, rfl, hv5, b5⟩
  rw [pcOf_enc] at hv5
  have P5 := Lib.hid (owns_below P4.out b5)
  have V5 := Lib.hid hv5
  have B5 := Lib.hid (step_ B4.out b5)
  have T5 := Lib.hid (Nat.le_trans T4.out b5.size)
  have TL := Lib.hid (show (M.text a.v.t).length ≤ 8 from HA.out.v.tl ▸ M.text_len a.v.t)
  have YT := Lib.hid (show M.Bytes (((M.text a.v.t).length : Int) :: M.text a.v.t) from fun y hy => by
    rcases List.mem_cons.1 hy with rfl | hy
    · have := TL.out; omega
    · exact M.text_bytes HA.out.v.tb y hy)
  have HA2 : Hid (∃ A2, A1 ++ (((M.text a.v.t).length : Int) :: M.text a.v.t) = A2) := Lib.hid ⟨_, rfl⟩
  obtain ⟨A2, hA2⟩ := HA2.out
  have E2 := Lib.hid hA2
  have YB := Lib.hid (show M.Bytes A2 from hA2 ▸ YA.out.app YT.out)
  clear hv5 b5 d0 HA2 hA2
  go_wp2_with ((at_builtin; refine app_bytesK _ rfl (.tmp 31) (.tmp 36) rfl (w1.heap.size + 1) _ _ A1 (((M.text a.v.t).length : Int) :: M.text a.v.t) rfl P5.out rfl V5.out (by have := LA.out; have := TL.out; simp; omega) T5.out ?_; intro v6 w6 hown6 hbel6 hk6; rw [E2.out] at hown6; have P6 := Lib.hid hown6; have B6 := Lib.hid (B5.out.trans (hbel6.mono Z2.out)); clear hown6 hbel6 hk6))
  have V6 := Lib.hid (bytes_of_owns P6.out YB.out)
  go_ret
  exact ⟨_, rfl, by rw [HE.out, HF.out, HL0.out, ← List.append_assoc, E1.out, E2.out]; exact V6.out, B6.out⟩
theorem refABytes_is (a : Am) (w : World) (ha : a.Ok) : Calls Tryz.prog 43 #[.agg a.cells.toArray] w (GivesBytes w (abytes a)) := by
  cases hr : a.right with
  | false => exact rb_no a w ha hr
  | true =>
    have hq := hr
    unfold Am.right at hq
    rw [Bool.and_eq_true] at hq
    rcases right_sort hq.1 with hs | hs | hs | hs
    · have hv := hq.2
      unfold valB at hv
      rw [if_pos hs] at hv
      exact rb_1 a w ha hr hs (by have := (between_parts hv).2.1; omega)
    · exact rb_2 a w ha hr hs
    · exact rb_3 a w ha hr hs
    · exact rb_4 a w ha hr hs
set_option maxRecDepth 100000 in
theorem asum_is (seed r : Int) (a : Am) (w : World) (ha : a.Ok) (hs : Hid (Mx.U64 seed)) (hr : Hid (Mx.sumI seed (abytes a) = r)) : Calls Tryz.prog 38 #[.int .u64 seed, .agg a.cells.toArray] w fun e w' => e = .returned (.int .u64 r) ∧ Below w.heap.size w w' := by
  have S0 := Lib.hid (as_new w a)
  have HA := Lib.hid ha
  have HL := Lib.hid (abytes_len ha)
  clear ha
  go_enter Tryz.func38, Tryz.ntmps38
  go_wp2_with (refine wpList_load_am rfl _ rfl w.heap.size a rfl S0.out.blk HA.out ?_)
  refine (abytes_is a _ HA.out).mono ?_
  rintro e w1 ⟨v, rfl, hv, b1⟩
  have V1 := Lib.hid hv
  obtain ⟨ad, cap, rfl, _⟩ := hv
  have S1 := Lib.hid (S0.out.below b1)
  clear b1
  go_wp2_with fail
  refine (Mx.sum_is seed r _ (abytes a) _ hs.out (by have := HL.out; omega) V1.out hr).mono ?_
  rintro e w2 ⟨rfl, b2⟩
  have B2 := Lib.hid (step_ S1.out.bel b2)
  clear b2
  go_wp2_with fail
  go_ret
  exact ⟨rfl, B2.out⟩
set_option maxRecDepth 100000 in
theorem refASum_is (seed r : Int) (a : Am) (w : World) (ha : a.Ok) (hs : Hid (Mx.U64 seed)) (hr : Hid (Mx.sumI seed (abytes a) = r)) : Calls Tryz.prog 29 #[.int .u64 seed, .agg a.cells.toArray] w fun e w' => e = .returned (.int .u64 r) ∧ Below w.heap.size w w' := by
  have S0 := Lib.hid (as_new w a)
  have HA := Lib.hid ha
  have HL := Lib.hid (abytes_len ha)
  clear ha
  go_enter Tryz.func29, Tryz.ntmps29
  go_wp2_with (refine wpList_load_am rfl _ rfl w.heap.size a rfl S0.out.blk HA.out ?_)
  refine (refABytes_is a _ HA.out).mono ?_
  rintro e w1 ⟨v, rfl, hv, b1⟩
  have V1 := Lib.hid hv
  obtain ⟨ad, cap, rfl, _⟩ := hv
  have S1 := Lib.hid (S0.out.below b1)
  clear b1
  go_wp2_with fail
  refine (Mx.refSum_is seed r _ (abytes a) _ hs.out (by have := HL.out; omega) V1.out hr).mono ?_
  rintro e w2 ⟨rfl, b2⟩
  have B2 := Lib.hid (step_ S1.out.bel b2)
  clear b2
  go_wp2_with fail
  go_ret
  exact ⟨rfl, B2.out⟩
end Go.Proofs.YtnpbmihbmilkbaaGreat
namespace Go.Proofs.YtnpbmihbmilkbaaGreat
def vz : List Int := [0, 0, 0, 0, 0, 0, 0, 0, 0, 0, 0, 0, 0, 0, 0, 0]
structure VOk (l : List Int) : Prop where
  len : l.length = 16
  rg : ∀ x ∈ l, 0 ≤ x ∧ x < 4294967296
end Go.Proofs.YtnpbmihbmilkbaaGreat
namespace Go.Proofs.YtnpbmihbmilkbaaGreat
theorem getD_at {l : List Int} {i : Nat} (h : i < l.length) : l.getD i 0 = l[i] := by rw [List.getD_eq_getElem?_getD, List.getElem?_eq_getElem h, Option.getD_some]
/-! Bounds. -/
section
variable {a b z : List Int} (ha : a.length = 16) (hb : b.length = 16) (hz : z.length = 16)
include ha hb
include hz
end
end Go.Proofs.YtnpbmihbmilkbaaGreat
namespace Go.Proofs.YtnpbmihbmilkbaaGreat
end Go.Proofs.YtnpbmihbmilkbaaGreat
namespace Go.Proofs.YtnpbmihbmilkbaaGreat
/-! Bounds. -/
end Go.Proofs.YtnpbmihbmilkbaaGreat
namespace Go.Proofs.YtnpbmihbmilkbaaGreat
def sel (p : Ky → Vl → Bool) (x : Am) : Bool := decide (x.k.s = 1) && p x.k x.v
def pick (p : Ky → Vl → Bool) (s : List Am) : List Ky := (s.filter (sel p)).map (·.k)
/-! What is dropped. -/
/-! What is added. -/
end Go.Proofs.YtnpbmihbmilkbaaGreat
namespace Go.Proofs.YtnpbmihbmilkbaaGreat
/-- The carts that have one. -/
def notes (s : List Am) : List Int := ((norm s).filter fun x => decide (x.k.s = 4)).map (·.k.c)
theorem one_st {a : Am} (h : a.Ok) (hr : a.right = true) : St [a] :=
  ⟨OkR.cons h okR_nil, fun b hb => by rw [List.mem_singleton.1 hb]; exact hr, List.pairwise_singleton ..⟩
section
variable {s : List Am} (h : OkR s) {c : Int} (hc : 0 ≤ c ∧ c < 65536)
include h hc
end
end Go.Proofs.YtnpbmihbmilkbaaGreat
namespace Go.Proofs.YtnpbmihbmilkbaaGreat
open Go.RowKit
def vc (l : List Int) : List Value := l.map (Value.int .u32)
theorem vc_len (l : List Int) : (vc l).length = l.length := List.length_map ..
/-- The two types of vectors. -/
structure VTy (t : TypeId) : Prop where
  und : Tryz.prog.underlying t = some (.array 16 46)
  info : (Tryz.prog.info? t).map (fun i => (i.zero, i.size)) = some (some (.agg (vc vz).toArray), 16)
  eqg : Tryz.prog.eqGuardType Tryz.prog.depth t = false
theorem VTy.size {t : TypeId} (h : VTy t) {l : List Int} (hl : l.length = 16) : (Tryz.prog.info? t).map (·.size) = some (vc l).length := by rw [vc_len, hl]; exact (zero_of_info h.info).2
theorem VTy.zero {t : TypeId} (h : VTy t) (w : World) : (zeroValue t).run Tryz.prog w = .ok (.agg (vc vz).toArray) w := (zero_of_info h.info).1 w
end Go.Proofs.YtnpbmihbmilkbaaGreat
namespace Go.Proofs
open Go.Shelf
def Tryz.sortAm_ren : Go.Shelf.Ren := ⟨fun | 6 => 117 | 15 => 55 | 14 => 137 | 28 => 83 | 29 => 84 | 20 => 151 | 21 => 152 | 22 => 153 | 23 => 154 | 24 => 155 | 25 => 156 | 26 => 157 | 27 => 158 | 46 => 164 | 47 => 107 | 48 => 108 | 49 => 165 | 50 => 166 | 57 => 169 | n => n, fun | 22 => 23 | 24 => 50 | 25 => 148 | 3 => 3 | 39 => 85 | 0 => 0 | 53 => 46 | 55 => 22 | 4 => 4 | 46 => 108 | 45 => 107 | 50 => 113 | 5 => 5 | 9 => 9 | 66 => 137 | 70 => 141 | 76 => 158 | 77 => 159 | n => n, fun | n => n⟩
theorem Tryz.sortAm : Go.Proofs.SlLaysF0.n6 Tryz.prog Tryz.sortAm_ren := {
  mixed := by kernel_rfl
  f6 := ⟨Tryz.f117.name, by decide, Tryz.func117.trans (congrArg some (by kernel_rfl))⟩
  f14 := ⟨Tryz.f137.name, by decide, Tryz.func137.trans (congrArg some (by kernel_rfl))⟩
  f15 := Tryz.func55.trans (congrArg some (by kernel_rfl))
  f20 := ⟨Tryz.f151.name, by decide, Tryz.func151.trans (congrArg some (by kernel_rfl))⟩
  f21 := ⟨Tryz.f152.name, by decide, Tryz.func152.trans (congrArg some (by kernel_rfl))⟩
  f22 := ⟨Tryz.f153.name, by decide, Tryz.func153.trans (congrArg some (by kernel_rfl))⟩
  f23 := ⟨Tryz.f154.name, by decide, Tryz.func154.trans (congrArg some (by kernel_rfl))⟩
  f24 := ⟨Tryz.f155.name, by decide, Tryz.func155.trans (congrArg some (by kernel_rfl))⟩
  f25 := ⟨Tryz.f156.name, by decide, Tryz.func156.trans (congrArg some (by kernel_rfl))⟩
  f26 := ⟨Tryz.f157.name, by decide, Tryz.func157.trans (congrArg some (by kernel_rfl))⟩
  f27 := ⟨Tryz.f158.name, by decide, Tryz.func158.trans (congrArg some (by kernel_rfl))⟩
  f28 := Tryz.func83.trans (congrArg some (by kernel_rfl))
  f29 := Tryz.func84.trans (congrArg some (by kernel_rfl))
  f46 := ⟨Tryz.f164.name, by decide, Tryz.func164.trans (congrArg some (by kernel_rfl))⟩
  f47 := Tryz.func107.trans (congrArg some (by kernel_rfl))
  f48 := Tryz.func108.trans (congrArg some (by kernel_rfl))
  f49 := ⟨Tryz.f165.name, by decide, Tryz.func165.trans (congrArg some (by kernel_rfl))⟩
  f50 := ⟨Tryz.f166.name, by decide, Tryz.func166.trans (congrArg some (by kernel_rfl))⟩
  f57 := ⟨Tryz.f169.name, by decide, Tryz.func169.trans (congrArg some (by kernel_rfl))⟩
  t0 := Tryz.underlying0
  a0 := Tryz.isAgg0
  z0 := Tryz.sizeOf0
  v0 := Tryz.zeroValue0
  t3 := Tryz.underlying3
  a3 := Tryz.isAgg3
  z3 := Tryz.sizeOf3
  v3 := Tryz.zeroValue3
  t4 := Tryz.underlying4
  a4 := Tryz.isAgg4
  z4 := Tryz.sizeOf4
  v4 := Tryz.zeroValue4
  t5 := Tryz.underlying5
  a5 := Tryz.isAgg5
  z5 := Tryz.sizeOf5
  v5 := Tryz.zeroValue5
  t9 := Tryz.underlying9
  a9 := Tryz.isAgg9
  z9 := Tryz.sizeOf9
  v9 := Tryz.zeroValue9
  t22 := Tryz.underlying23
  a22 := Tryz.isAgg23
  z22 := Tryz.sizeOf23
  v22 := Tryz.zeroValue23
  t25 := Tryz.underlying148
  a25 := Tryz.isAgg148
  z25 := Tryz.sizeOf148
  v25 := Tryz.zeroValue148
  t39 := Tryz.underlying85
  a39 := Tryz.isAgg85
  z39 := Tryz.sizeOf85
  v39 := Tryz.zeroValue85
  t45 := Tryz.underlying107
  a45 := Tryz.isAgg107
  z45 := Tryz.sizeOf107
  v45 := Tryz.zeroValue107
  t46 := Tryz.underlying108
  a46 := Tryz.isAgg108
  z46 := Tryz.sizeOf108
  v46 := Tryz.zeroValue108
  t50 := Tryz.underlying113
  a50 := Tryz.isAgg113
  z50 := Tryz.sizeOf113
  v50 := Tryz.zeroValue113
  t53 := Tryz.underlying46
  a53 := Tryz.isAgg46
  z53 := Tryz.sizeOf46
  v53 := Tryz.zeroValue46
  t55 := Tryz.underlying22
  a55 := Tryz.isAgg22
  z55 := Tryz.sizeOf22
  v55 := Tryz.zeroValue22
  t66 := Tryz.underlying137
  a66 := Tryz.isAgg137
  z66 := Tryz.sizeOf137
  v66 := Tryz.zeroValue137
  t70 := Tryz.underlying141
  a70 := Tryz.isAgg141
  z70 := Tryz.sizeOf141
  v70 := Tryz.zeroValue141
  t76 := Tryz.underlying158
  a76 := Tryz.isAgg158
  z76 := Tryz.sizeOf158
  v76 := Tryz.zeroValue158
  t77 := Tryz.underlying159
  a77 := Tryz.isAgg159
  z77 := Tryz.sizeOf159
  v77 := Tryz.zeroValue159 }
end Go.Proofs
