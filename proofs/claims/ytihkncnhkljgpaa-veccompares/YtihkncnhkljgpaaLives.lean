/- The contract of the statements' own example; vectors that are made and stored in a region that draws its order. -/
import Derived.Test.YtihkncnhkljgpaaJoins
namespace Go.Proofs.Ytihkncnhkljgpaa
open Go.RowKit

def va : List Int := [1, 0, 0, 0, 0, 0, 0, 0, 0, 0, 0, 0, 0, 0, 0, 0]
def vb : List Int := [0, 1, 0, 0, 0, 0, 0, 0, 0, 0, 0, 0, 0, 0, 0, 0]
theorem built24_1 : Try.prog.built 24 [(0, .int .u32 1)] = some (vc va).toArray := by kernel_rfl
theorem built24_2 : Try.prog.built 24 [(0, .int .u32 0), (1, .int .u32 1)] = some (vc vb).toArray := by kernel_rfl
theorem built24_0 : Try.prog.built 24 [] = some (vc vz).toArray := by kernel_rfl
/-- A vector is made, in a region that draws its order. -/
theorem ready_allocV {ops : Array Oper} {Q : Exit → Act → World → Prop} {md : Region.Mode} {S : World → Prop} {fuel : Nat} {listed : Array Bool} {a : Act} {w : World} {i : Nat} {o : Oper} {rs : List Nat} (ho : ops[i]? = some o) (hg : o.guard = none) (hop : o.op = .alloc 24)
    (h : ∀ g w', g = w.heap.size → Blk w' g 24 (vc vz) → Below w.heap.size w w' → S w' ∧ wpAnyH Try.prog md ops Q S fuel (listed.setIfInBounds i true) (a.put o.dst (.pointer (some ⟨g, 0, none⟩))) w')
    (hs : AllReadyH Try.prog md ops Q S fuel listed a w rs) : AllReadyH Try.prog md ops Q S fuel listed a w (i :: rs) := by
  refine AllReadyH.cons ho (fun K hK => ?_) hs
  have hw : Region.wanted o (yielded ops a.tmps) = true := by simp [Region.wanted, hg]
  rw [if_pos hw]
  have hz := zero24
  have H := h w.heap.size (w.alloc (.cells (vc vz).toArray 24)) rfl (blk_alloc w 24 (vc vz)) (new_below w _)
  unfold Oper.wp execOp
  simp [hop, Instr.alloc, hz]
  exact hK.out _ _ H.1 (fun _ => H.2)
/-- A vector is stored over a made one, in a region that draws its order. -/
theorem ready_storeV {ops : Array Oper} {Q : Exit → Act → World → Prop} {md : Region.Mode} {S : World → Prop} {fuel : Nat} {listed : Array Bool} {a : Act} {w : World} {i : Nat} {o : Oper} {rs : List Nat} (ho : ops[i]? = some o) (hg : o.guard = none) (x y : Operand) (hop : o.op = .store 24 x y) (g : Nat) (l m : List Int)
    (hx : a.eval x = .pointer (some ⟨g, 0, none⟩)) (hy : a.eval y = .agg (vc m).toArray) (hb : Blk w g 24 (vc l)) (hl : l.length = 16) (hm : m.length = 16)
    (h : ∀ w', Blk w' g 24 (vc m) → Only g w w' → S w' ∧ wpAnyH Try.prog md ops Q S fuel (listed.setIfInBounds i true) (a.put o.dst undef) w')
    (hs : AllReadyH Try.prog md ops Q S fuel listed a w rs) : AllReadyH Try.prog md ops Q S fuel listed a w (i :: rs) := by
  refine AllReadyH.cons ho (fun K hK => ?_) hs
  have hw : Region.wanted o (yielded ops a.tmps) = true := by simp [Region.wanted, hg]
  rw [if_pos hw]
  have h1 := vc_len l
  have h2 := vc_len m
  refine wp_store_mid 24 x y hop g 0 (vc m).toArray hx hy (hb.there 0 _ (by rw [List.size_toArray]; omega)) (by rw [List.size_toArray]; exact t24.size hm) (vc_one m) ?_
  have hB := Blk.setCells (vc m) 0 w (vc l) hb
  rw [setL_all _ _ (by omega)] at hB
  have H := h _ hB (Only.setCells (vc m) 0 w)
  exact hK.out _ _ H.1 (fun _ => H.2)
set_option maxRecDepth 100000 in
theorem alive_is (w : World) : Calls Try.prog 15 #[] w fun e w' => e = .returned (.bool true) ∧ Below w.heap.size w w' := by
  have hz := zero24
  have Z1 := Lib.hid ((blk_alloc w 24 (vc vz)).alloc (.cells (vc vz).toArray 24))
  have Z2 := Lib.hid (blk2 w (.cells (vc vz).toArray 24) 24 (vc vz))
  have B0 := Lib.hid (step_ (new_below w (.cells (vc vz).toArray 24)) (new_below _ (.cells (vc vz).toArray 24)))
  go_enter Try.func15, Try.ntmps15
  go_wp2_with (first
    | refine wpList_build rfl 24 _ rfl [(0, .int .u32 1)] rfl _ built24_1 ?_
    | refine wpList_build rfl 24 _ rfl [(0, .int .u32 0), (1, .int .u32 1)] rfl _ built24_2 ?_
    | (refine wpList_store_v t24 rfl _ _ rfl w.heap.size vz va rfl rfl Z1.out rfl rfl ?_; intro w1 N1 O1)
    | (refine wpList_store_v t24 rfl _ _ rfl (w.heap.size + 1) vz vb rfl rfl (Z2.out.only O1.out (by omega)) rfl rfl ?_; intro w2 N2 O2))
  have QA := Lib.hid (N1.out.only O2.out (by omega))
  have QB := Lib.hid N2.out
  have B2 := Lib.hid ((B0.out.trans (O1.out.below (Nat.le_refl _) B0.out.size)).trans (O2.out.below (by omega) (B0.out.trans (O1.out.below (Nat.le_refl _) B0.out.size)).size))
  clear hz Z1 Z2 N1 O1 N2 O2 B0
  simp only [Act.put]
  refine region_later (by kernel_rfl) (by kernel_rfl) ?_
  (go_big_quiet_want; refine quiet_load_v t24 w.heap.size va _ rfl rfl QA.out rfl ?_; go_simp; go_big_quiet_on)
  (go_big_quiet_want; refine quiet_load_v t24 (w.heap.size + 1) vb _ rfl rfl QB.out rfl ?_; go_simp; go_big_quiet_on)
  go_big_quiet_step (exact later_call (compareV_is va vb 3 _ rfl rfl (Lib.hid (by decide))))
  go_big_quiet_step (fail)
  go_big_quiet_step (fail)
  (go_big_quiet_want; refine quiet_load_v t24 w.heap.size va _ rfl rfl QA.out rfl ?_; go_simp; go_big_quiet_on)
  (go_big_quiet_want; refine quiet_load_v t24 w.heap.size va _ rfl rfl QA.out rfl ?_; go_simp; go_big_quiet_on)
  (go_big_quiet_want; refine quiet_load_v t24 (w.heap.size + 1) vb _ rfl rfl QB.out rfl ?_; go_simp; go_big_quiet_on)
  go_big_quiet_step (exact later_call (joinV_is va vb _ rfl rfl))
  go_big_quiet_step (exact later_call (compareV_is va (vj va vb) 1 _ rfl (vj_len rfl rfl) (Lib.hid (by decide))))
  go_big_quiet_step (fail)
  go_big_quiet_step (fail)
  go_big_quiet_step (fail)
  (go_big_quiet_want; refine quiet_load_v t24 w.heap.size va _ rfl rfl QA.out rfl ?_; go_simp; go_big_quiet_on)
  (go_big_quiet_want; refine quiet_load_v t24 w.heap.size va _ rfl rfl QA.out rfl ?_; go_simp; go_big_quiet_on)
  go_big_quiet_step (exact later_call (compareV_is va va 0 _ rfl rfl (Lib.hid (by decide))))
  go_big_quiet_step (fail)
  go_big_quiet_step (fail)
  go_big_quiet_step (fail)
  refine wpQuiet_nil ?_
  intro w5 hw5
  have B5 := Lib.hid (step_ B2.out hw5)
  clear hw5
  go_wp2_with fail
  go_ret
  exact ⟨rfl, B5.out⟩
end Go.Proofs.Ytihkncnhkljgpaa
