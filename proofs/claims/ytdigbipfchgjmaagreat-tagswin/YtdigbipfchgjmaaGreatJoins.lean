/- The contracts of Join, Meet, Leq and Compare of package vec and of the reference. The contract of the statements' own example; vectors that are made and stored in a region that draws its order. -/
import Derived.Test.YtdigbipfchgjmaaGreatVecs
import Derived.Test.YtdigbipfchgjmaaGreatReadys
namespace Go.Proofs.YtdigbipfchgjmaaGreat
open Go.RowKit

end Go.Proofs.YtdigbipfchgjmaaGreat
namespace Go.Proofs.YtdigbipfchgjmaaGreat
open Go.RowKit

def va : List Int := [1, 0, 0, 0, 0, 0, 0, 0, 0, 0, 0, 0, 0, 0, 0, 0]
def vb : List Int := [0, 1, 0, 0, 0, 0, 0, 0, 0, 0, 0, 0, 0, 0, 0, 0]
theorem built24_1 : Tryz.prog.built 74 [(0, .int .u32 1)] = some (vc va).toArray := by kernel_rfl
theorem built24_2 : Tryz.prog.built 74 [(0, .int .u32 0), (1, .int .u32 1)] = some (vc vb).toArray := by kernel_rfl
theorem built24_0 : Tryz.prog.built 74 [] = some (vc vz).toArray := by kernel_rfl
/-- A vector is made, in a region that draws its order. -/
theorem ready_allocV {ops : Array Oper} {Q : Exit → Act → World → Prop} {md : Region.Mode} {S : World → Prop} {fuel : Nat} {listed : Array Bool} {a : Act} {w : World} {i : Nat} {o : Oper} {rs : List Nat} (ho : ops[i]? = some o) (hg : o.guard = none) (hop : o.op = .alloc 74)
    (h : ∀ g w', g = w.heap.size → Blk w' g 74 (vc vz) → Below w.heap.size w w' → S w' ∧ wpAnyH Tryz.prog md ops Q S fuel (listed.setIfInBounds i true) (a.put o.dst (.pointer (some ⟨g, 0, none⟩))) w')
    (hs : AllReadyH Tryz.prog md ops Q S fuel listed a w rs) : AllReadyH Tryz.prog md ops Q S fuel listed a w (i :: rs) := by
  refine AllReadyH.cons ho (fun K hK => ?_) hs
  have hw : Region.wanted o (yielded ops a.tmps) = true := by simp [Region.wanted, hg]
  rw [if_pos hw]
  have hz := zero24
  have H := h w.heap.size (w.alloc (.cells (vc vz).toArray 74)) rfl (blk_alloc w 74 (vc vz)) (new_below w _)
  unfold Oper.wp execOp
  simp [hop, Instr.alloc, hz]
  exact hK.out _ _ H.1 (fun _ => H.2)
/-- A vector is stored over a made one, in a region that draws its order. -/
theorem ready_storeV {ops : Array Oper} {Q : Exit → Act → World → Prop} {md : Region.Mode} {S : World → Prop} {fuel : Nat} {listed : Array Bool} {a : Act} {w : World} {i : Nat} {o : Oper} {rs : List Nat} (ho : ops[i]? = some o) (hg : o.guard = none) (x y : Operand) (hop : o.op = .store 74 x y) (g : Nat) (l m : List Int)
    (hx : a.eval x = .pointer (some ⟨g, 0, none⟩)) (hy : a.eval y = .agg (vc m).toArray) (hb : Blk w g 74 (vc l)) (hl : l.length = 16) (hm : m.length = 16)
    (h : ∀ w', Blk w' g 74 (vc m) → Only g w w' → S w' ∧ wpAnyH Tryz.prog md ops Q S fuel (listed.setIfInBounds i true) (a.put o.dst undef) w')
    (hs : AllReadyH Tryz.prog md ops Q S fuel listed a w rs) : AllReadyH Tryz.prog md ops Q S fuel listed a w (i :: rs) := by
  refine AllReadyH.cons ho (fun K hK => ?_) hs
  have hw : Region.wanted o (yielded ops a.tmps) = true := by simp [Region.wanted, hg]
  rw [if_pos hw]
  have h1 := vc_len l
  have h2 := vc_len m
  refine wp_store_mid 74 x y hop g 0 (vc m).toArray hx hy (hb.there 0 _ (by rw [List.size_toArray]; omega)) (by rw [List.size_toArray]; exact t24.size hm) (vc_one m) ?_
  have hB := Blk.setCells (vc m) 0 w (vc l) hb
  rw [setL_all _ _ (by omega)] at hB
  have H := h _ hB (Only.setCells (vc m) 0 w)
  exact hK.out _ _ H.1 (fun _ => H.2)
end Go.Proofs.YtdigbipfchgjmaaGreat
