/- The contracts of Join, Meet, Leq and Compare of package vec and of the reference. The contract of the statements' own example; vectors that are made and stored in a region that draws its order. -/
import Derived.Test.YtpgafijeecmgmaaGreatVecs
import Derived.Test.YtpgafijeecmgmaaGreatReadys
namespace Go.Proofs.YtpgafijeecmgmaaGreat
open Go.RowKit

theorem max_is (x y : Int) (w : World) : Calls Tryz.prog 38 #[.int .u32 x, .int .u32 y] w fun e w' => e = .returned (.int .u32 (mx x y)) ∧ w = w' := by
  by_cases h : x < y
  · have E := Lib.hid (show mx x y = y by unfold mx; rw [if_pos h])
    go_enter Tryz.func38, Tryz.ntmps38
    go_wp2_with fail
    go_ret
    exact ⟨ret_int E.out.symm, rfl⟩
  · have E := Lib.hid (show mx x y = x by unfold mx; rw [if_neg h])
    go_enter Tryz.func38, Tryz.ntmps38
    go_wp2_with fail
    go_ret
    exact ⟨ret_int E.out.symm, rfl⟩
set_option maxRecDepth 100000 in
theorem eachV_is (f : Int → Int → Int) (g : Nat) (eg : ∀ args w, (callFunc g args).run Tryz.prog w = .ok (.enter g args) w)
    (hc : ∀ x y W, Calls Tryz.prog g #[.int .u32 x, .int .u32 y] W fun e W' => e = .returned (.int .u32 (f x y)) ∧ W = W') (a b : List Int) (w : World) (ha : a.length = 16) (hb : b.length = 16) :
    Calls Tryz.prog 37 #[.agg (vc a).toArray, .agg (vc b).toArray, .func (.func g) #[] #[]] w fun e w' => e = .returned (.agg (vc (List.zipWith f a b)).toArray) ∧ Below w.heap.size w w' := by
  have hz := zero24
  have HC := Lib.hid hc
  have ZL := Lib.hid (zip_len (f := f) ha hb)
  have LE := Lib.hid (ZL.out.trans ha.symm)
  have Q1 := Lib.hid (((blk_alloc w 26 (vc a)).alloc (.cells (vc b).toArray 26)).alloc (.cells (vc vz).toArray 26))
  have Q2 := Lib.hid ((blk2 w (.cells (vc a).toArray 26) 26 (vc b)).alloc (.cells (vc vz).toArray 26))
  have Q3 := Lib.hid (blk3 w (.cells (vc a).toArray 26) (.cells (vc b).toArray 26) 26 (vc vz))
  have B0 := Lib.hid (step_ (step_ (new_below w (.cells (vc a).toArray 26)) (new_below _ (.cells (vc b).toArray 26))) (new_below _ (.cells (vc vz).toArray 26)))
  have HA := Lib.hid ha
  have HB := Lib.hid hb
  clear hc ha hb
  go_enter Tryz.func37, Tryz.ntmps37
  go_wp2_with fail
  clear hz
  go_loopw [8] (fun i wr => ∃ k : Nat, k ≤ 16 ∧ i = .int .i64 k ∧ Blk wr w.heap.size 26 (vc (turnL (List.zipWith f a b) a k)) ∧ Blk wr (w.heap.size + 1) 26 (vc b) ∧ Blk wr (w.heap.size + 2) 26 (vc vz) ∧ Below w.heap.size w wr) (fun i _ => 16 - (intOf i).toNat)
  case atStart => exact ⟨0, Nat.zero_le _, rfl, Q1.out, Q2.out, Q3.out, B0.out⟩
  case round =>
    obtain ⟨k, hk, rfl, h1, h2, h3, hbel⟩ := hrel
    by_cases hlt : k < 16
    · obtain ⟨x, y, ex, ey, es, -⟩ := zip_step f HA.out HB.out hlt
      have ca := h1.cell (vc_at ex)
      have cb := h2.cell (vc_at ey)
      have fr := h1.frozen k
      have HS := Lib.hid es
      clear ex ey es
      have H1 := Lib.hid h1
      have H2 := Lib.hid h2
      have H3 := Lib.hid h3
      have BB := Lib.hid hbel
      clear h1 h2 h3 hbel
      go_wp2_with fail
      go_region_with (refine (HC.out x y _).mono ?_; rintro e w3 ⟨rfl, rfl⟩)
      all_goals
        go_wp2_with fail
        go_roundw
        case rel => exact ⟨k + 1, by omega, by go_num, by rw [← HS.out]; exact bumpL H1.out, H2.out.other _ _ (by omega), H3.out.other _ _ (by omega), below_drew (BB.out.setCell (Nat.le_refl _) _)⟩
        case measure => simp [intOf]; omega
    · have hk16 : k = 16 := by omega
      subst hk16
      rw [zip_done f HA.out HB.out] at h1
      have H1 := Lib.hid h1
      have H3 := Lib.hid h3
      have BB := Lib.hid hbel
      clear h1 h2 h3 hbel
      go_wp2_with (first
        | refine wpList_load_v t24 rfl _ rfl w.heap.size 0 (List.zipWith f a b) rfl H1.out.range ZL.out ?_
        | (refine wpList_store_v t24 rfl _ _ rfl (w.heap.size + 2) vz (List.zipWith f a b) rfl rfl H3.out rfl ZL.out ?_; intro w5 hw5 ho5))
      refine bodyPost_ret (results_v t24 rfl _ _ (w.heap.size + 2) (List.zipWith f a b) rfl hw5.out ZL.out) rfl ?_
      exact ⟨rfl, BB.out.trans (ho5.out.below (by omega) BB.out.size)⟩
set_option maxRecDepth 100000 in
theorem joinV_is (a b : List Int) (w : World) (ha : a.length = 16) (hb : b.length = 16) : Calls Tryz.prog 23 #[.agg (vc a).toArray, .agg (vc b).toArray] w fun e w' => e = .returned (.agg (vc (vj a b)).toArray) ∧ Below w.heap.size w w' := by
  have hz := zero24
  have ZL := Lib.hid (vj_len ha hb)
  have Q1 := Lib.hid (((blk_alloc w 26 (vc a)).alloc (.cells (vc b).toArray 26)).alloc (.cells (vc vz).toArray 26))
  have Q2 := Lib.hid ((blk2 w (.cells (vc a).toArray 26) 26 (vc b)).alloc (.cells (vc vz).toArray 26))
  have Q3 := Lib.hid (blk3 w (.cells (vc a).toArray 26) (.cells (vc b).toArray 26) 26 (vc vz))
  have B0 := Lib.hid (step_ (step_ (new_below w (.cells (vc a).toArray 26)) (new_below _ (.cells (vc b).toArray 26))) (new_below _ (.cells (vc vz).toArray 26)))
  have HA := Lib.hid ha
  have HB := Lib.hid hb
  clear ha hb
  go_enter Tryz.func23, Tryz.ntmps23
  go_wp2_with (first
    | refine wpList_load_v t24 rfl _ rfl w.heap.size 0 a rfl Q1.out.range HA.out ?_
    | refine wpList_load_v t24 rfl _ rfl (w.heap.size + 1) 0 b rfl Q2.out.range HB.out ?_)
  refine (eachV_is mx 38 (fun _ _ => rfl) max_is a b _ HA.out HB.out).mono ?_
  rintro e w1 ⟨rfl, b1⟩
  have P3 := Lib.hid (Q3.out.below b1)
  have B1 := Lib.hid (step_ B0.out b1)
  clear b1
  go_wp2_with (refine wpList_store_v t24 rfl _ _ rfl (w.heap.size + 1 + 1) vz (vj a b) rfl rfl P3.out rfl ZL.out ?_; intro w5 hw5 ho5)
  refine bodyPost_ret (results_v t24 rfl _ _ (w.heap.size + 1 + 1) (vj a b) rfl hw5.out ZL.out) rfl ?_
  exact ⟨rfl, B1.out.trans (ho5.out.below (by omega) B1.out.size)⟩
end Go.Proofs.YtpgafijeecmgmaaGreat
namespace Go.Proofs.YtpgafijeecmgmaaGreat
open Go.RowKit

def va : List Int := [1, 0, 0, 0, 0, 0, 0, 0, 0, 0, 0, 0, 0, 0, 0, 0]
def vb : List Int := [0, 1, 0, 0, 0, 0, 0, 0, 0, 0, 0, 0, 0, 0, 0, 0]
theorem built24_1 : Tryz.prog.built 26 [(0, .int .u32 1)] = some (vc va).toArray := by kernel_rfl
theorem built24_2 : Tryz.prog.built 26 [(0, .int .u32 0), (1, .int .u32 1)] = some (vc vb).toArray := by kernel_rfl
theorem built24_0 : Tryz.prog.built 26 [] = some (vc vz).toArray := by kernel_rfl
/-- A vector is made, in a region that draws its order. -/
theorem ready_allocV {ops : Array Oper} {Q : Exit → Act → World → Prop} {md : Region.Mode} {S : World → Prop} {fuel : Nat} {listed : Array Bool} {a : Act} {w : World} {i : Nat} {o : Oper} {rs : List Nat} (ho : ops[i]? = some o) (hg : o.guard = none) (hop : o.op = .alloc 26)
    (h : ∀ g w', g = w.heap.size → Blk w' g 26 (vc vz) → Below w.heap.size w w' → S w' ∧ wpAnyH Tryz.prog md ops Q S fuel (listed.setIfInBounds i true) (a.put o.dst (.pointer (some ⟨g, 0, none⟩))) w')
    (hs : AllReadyH Tryz.prog md ops Q S fuel listed a w rs) : AllReadyH Tryz.prog md ops Q S fuel listed a w (i :: rs) := by
  refine AllReadyH.cons ho (fun K hK => ?_) hs
  have hw : Region.wanted o (yielded ops a.tmps) = true := by simp [Region.wanted, hg]
  rw [if_pos hw]
  have hz := zero24
  have H := h w.heap.size (w.alloc (.cells (vc vz).toArray 26)) rfl (blk_alloc w 26 (vc vz)) (new_below w _)
  unfold Oper.wp execOp
  simp [hop, Instr.alloc, hz]
  exact hK.out _ _ H.1 (fun _ => H.2)
/-- A vector is stored over a made one, in a region that draws its order. -/
theorem ready_storeV {ops : Array Oper} {Q : Exit → Act → World → Prop} {md : Region.Mode} {S : World → Prop} {fuel : Nat} {listed : Array Bool} {a : Act} {w : World} {i : Nat} {o : Oper} {rs : List Nat} (ho : ops[i]? = some o) (hg : o.guard = none) (x y : Operand) (hop : o.op = .store 26 x y) (g : Nat) (l m : List Int)
    (hx : a.eval x = .pointer (some ⟨g, 0, none⟩)) (hy : a.eval y = .agg (vc m).toArray) (hb : Blk w g 26 (vc l)) (hl : l.length = 16) (hm : m.length = 16)
    (h : ∀ w', Blk w' g 26 (vc m) → Only g w w' → S w' ∧ wpAnyH Tryz.prog md ops Q S fuel (listed.setIfInBounds i true) (a.put o.dst undef) w')
    (hs : AllReadyH Tryz.prog md ops Q S fuel listed a w rs) : AllReadyH Tryz.prog md ops Q S fuel listed a w (i :: rs) := by
  refine AllReadyH.cons ho (fun K hK => ?_) hs
  have hw : Region.wanted o (yielded ops a.tmps) = true := by simp [Region.wanted, hg]
  rw [if_pos hw]
  have h1 := vc_len l
  have h2 := vc_len m
  refine wp_store_mid 26 x y hop g 0 (vc m).toArray hx hy (hb.there 0 _ (by rw [List.size_toArray]; omega)) (by rw [List.size_toArray]; exact t24.size hm) (vc_one m) ?_
  have hB := Blk.setCells (vc m) 0 w (vc l) hb
  rw [setL_all _ _ (by omega)] at hB
  have H := h _ hB (Only.setCells (vc m) 0 w)
  exact hK.out _ _ H.1 (fun _ => H.2)
end Go.Proofs.YtpgafijeecmgmaaGreat
